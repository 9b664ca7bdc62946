/- coord: the space of a catalogue; New. · coord: Under. · coord: Leaves, Cells, Code of a space. · coord: Within. -/
import Derived.Test.YtmedgkccicbieaaGreatPTk
import Derived.Test.YtmedgkccicbieaaGreatPCo4
import Derived.Deep.RegionHeld3
import Derived.Deep.CutRange
namespace Go.Proofs.YtmedgkccicbieaaGreat
open Go.RowKit Go.Maps
set_option linter.unusedSimpArgs false
set_option linter.unusedVariables false

def leas (ds : List Dm) (k : Nat) : Nat := if k < ds.length then (lvsN (dmL ds k)).length else 1
structure SPi (w : World) (s p : Nat) (ds : List Dm) (m i : Nat) (rv : Nat → Option Addr × Nat) : Prop where
  c0 : w.cell? ⟨s, 0, none⟩ = some (.pointer (some ⟨p, 0, none⟩))
  c1 : w.cell? ⟨s, 1, none⟩ = some (.int .i64 m)
  cm : ∀ k, k < 4 → w.cell? ⟨s, 2 + k, none⟩ = some (.int .i64 ((if k < i then many ds k else 1 : Nat) : Int))
  cl : ∀ k, k < 4 → w.cell? ⟨s, 6 + k, none⟩ = some (.int .i64 ((if k < i then leas ds k else 1 : Nat) : Int))
  cr : ∀ k, k < i → w.cell? ⟨s, 10 + k, none⟩ = some (.slice (rv k).1 (lvsN (dmL ds k)).length (rv k).2) ∧ Sl .i64 w (rv k).1 (lvsN (dmL ds k)).length (ints (lvsN (dmL ds k))) ∧ ∀ ad, (rv k).1 = some ad → ad.block ≠ s
  cn : ∀ k, k < 4 → ∃ u, w.cell? ⟨s, 10 + k, none⟩ = some u
  fz : ∀ k, w.frozen? ⟨s, k, none⟩ = false
theorem SPi.keep {w y : World} {s p : Nat} {ds : List Dm} {m i : Nat} {rv : Nat → Option Addr × Nat} (h : SPi w s p ds m i rv) (k : Kept w y) : SPi y s p ds m i rv :=
  ⟨k.cellp h.c0, k.cellp h.c1, fun j hj => k.cellp (h.cm j hj), fun j hj => k.cellp (h.cl j hj), fun j hj => ⟨k.cellp (h.cr j hj).1, (h.cr j hj).2.1.kept k, (h.cr j hj).2.2⟩, fun j hj => let ⟨u, hu⟩ := h.cn j hj; ⟨u, k.cellp hu⟩, fun j => (k.frozen (p := ⟨s, j, none⟩) (show s < w.heap.size from cell_lt h.c0)).trans (h.fz j)⟩
structure SP0 (w : World) (s p m k : Nat) : Prop where
  c0 : w.cell? ⟨s, 0, none⟩ = some (.pointer (some ⟨p, 0, none⟩))
  c1 : w.cell? ⟨s, 1, none⟩ = some (.int .i64 m)
  cm : ∀ j, j < 4 → ∃ u, w.cell? ⟨s, 2 + j, none⟩ = some u ∧ (j < k → u = .int .i64 1)
  cl : ∀ j, j < 4 → ∃ u, w.cell? ⟨s, 6 + j, none⟩ = some u ∧ (j < k → u = .int .i64 1)
  cn : ∀ j, j < 4 → ∃ u, w.cell? ⟨s, 10 + j, none⟩ = some u
  fz : ∀ j, w.frozen? ⟨s, j, none⟩ = false
theorem SP0.step {w : World} {s p m k : Nat} (h : SP0 w s p m k) (hk : k < 4) : SP0 (((w.setCell ⟨s, 2 + k, none⟩ (.int .i64 1)).setCell ⟨s, 6 + k, none⟩ (.int .i64 1)).drew) s p m (k + 1) := by
  have kd := (Kept.refl ((w.setCell ⟨s, 2 + k, none⟩ (.int .i64 1)).setCell ⟨s, 6 + k, none⟩ (.int .i64 1))).drew
  have far : ∀ {o : Nat} {u : Value}, o ≠ 2 + k → o ≠ 6 + k → w.cell? ⟨s, o, none⟩ = some u → (((w.setCell ⟨s, 2 + k, none⟩ (.int .i64 1)).setCell ⟨s, 6 + k, none⟩ (.int .i64 1)).drew).cell? ⟨s, o, none⟩ = some u := fun h1 h2 hu => kd.cellp (by
    rw [World.cell?_setCell_other _ _ _ _ (by intro e; injection e with _ e1 _; exact h2 e1.symm), World.cell?_setCell_other _ _ _ _ (by intro e; injection e with _ e1 _; exact h1 e1.symm)]; exact hu)
  refine ⟨far (by omega) (by omega) h.c0, far (by omega) (by omega) h.c1, fun j hj => ?_, fun j hj => ?_, fun j hj => ?_, fun j => ?_⟩
  · by_cases e : j = k
    · subst e
      obtain ⟨u, hu, _⟩ := h.cm j hj
      exact ⟨_, kd.cellp (by rw [World.cell?_setCell_other _ _ _ _ (by intro e; injection e with _ e1 _; omega)]; exact World.cell?_setCell_same _ _ _ hu), fun _ => rfl⟩
    · obtain ⟨u, hu, hv⟩ := h.cm j hj
      exact ⟨u, far (by omega) (by omega) hu, fun h1 => hv (by omega)⟩
  · by_cases e : j = k
    · subst e
      obtain ⟨u, hu, _⟩ := h.cl j hj
      exact ⟨_, kd.cellp (World.cell?_setCell_same _ _ _ (by rw [World.cell?_setCell_other _ _ _ _ (by intro e; injection e with _ e1 _; omega)]; exact hu)), fun _ => rfl⟩
    · obtain ⟨u, hu, hv⟩ := h.cl j hj
      exact ⟨u, far (by omega) (by omega) hu, fun h1 => hv (by omega)⟩
  · obtain ⟨u, hu⟩ := h.cn j hj
    exact ⟨u, far (by omega) (by omega) hu⟩
  · have : ((w.setCell ⟨s, 2 + k, none⟩ (.int .i64 1)).setCell ⟨s, 6 + k, none⟩ (.int .i64 1)).frozen? ⟨s, j, none⟩ = false := by rw [World.frozen?_setCell, World.frozen?_setCell]; exact h.fz j
    exact this
theorem SP0.all {w : World} {s p m : Nat} (h : SP0 w s p m 4) (ds : List Dm) (rv : Nat → Option Addr × Nat) : SPi w s p ds m 0 rv := by
  refine ⟨h.c0, h.c1, fun k hk => ?_, fun k hk => ?_, fun k hk => absurd hk (by omega), h.cn, h.fz⟩
  · obtain ⟨u, hu, hv⟩ := h.cm k hk
    rw [hu, hv hk]; simp
  · obtain ⟨u, hu, hv⟩ := h.cl k hk
    rw [hu, hv hk]; simp
theorem own_fresh {w : World} {B n c : Nat} {ad : Addr} {l : List Int} (h : OwnI w B (.slice (some ad) n c) l) : B ≤ ad.block := by
  obtain ⟨h0, ⟨h1, _⟩ | ⟨k, cap, cur, hv, hb, _⟩⟩ := h
  · cases h1
  · cases hv; exact hb
theorem sl_set {w : World} {va : Option Addr} {n s o : Nat} {l : List Int} (h : Sl .i64 w va n l) (hb : ∀ ad, va = some ad → ad.block ≠ s) (u : Value) : Sl .i64 (w.setCell ⟨s, o, none⟩ u) va n l :=
  h.chg (S := fun j => j = s) (Chg.setCell (S := fun j => j = s) (Chg.refl _ w) (p := ⟨s, o, none⟩) (.inl rfl) u) (fun _ ad e => hb ad e)
theorem SPi.put10 {w : World} {s p : Nat} {ds : List Dm} {m i : Nat} {rv : Nat → Option Addr × Nat} (h : SPi w s p ds m i rv) {j : Nat} (hi : i ≤ j) (u : Value) : SPi (w.setCell ⟨s, 10 + j, none⟩ u) s p ds m i rv := by
  have far : ∀ {o : Nat} {v : Value}, o ≠ 10 + j → w.cell? ⟨s, o, none⟩ = some v → (w.setCell ⟨s, 10 + j, none⟩ u).cell? ⟨s, o, none⟩ = some v := fun h1 hv => by
    rw [World.cell?_setCell_other _ _ _ _ (by intro e; injection e with _ e1 _; exact h1 e1.symm)]; exact hv
  refine ⟨far (by omega) h.c0, far (by omega) h.c1, fun k hk => far (by omega) (h.cm k hk), fun k hk => far (by omega) (h.cl k hk), fun k hk => ⟨far (by omega) (h.cr k hk).1, sl_set (h.cr k hk).2.1 (h.cr k hk).2.2 u, (h.cr k hk).2.2⟩, fun k hk => ?_, fun k => by rw [World.frozen?_setCell]; exact h.fz k⟩
  obtain ⟨v, hv⟩ := h.cn k hk
  by_cases e : k = j
  · subst e; exact ⟨u, World.cell?_setCell_same _ _ _ hv⟩
  · exact ⟨v, far (by omega) hv⟩
theorem SPi.next {w : World} {s p : Nat} {ds : List Dm} {m j : Nat} {rv : Nat → Option Addr × Nat} (h : SPi w s p ds m j rv) (hj : j < ds.length) (h4 : ds.length ≤ 4) {va : Option Addr} {vc : Nat} (hc : w.cell? ⟨s, 10 + j, none⟩ = some (.slice va (lvsN (dmL ds j)).length vc)) (hs : Sl .i64 w va (lvsN (dmL ds j)).length (ints (lvsN (dmL ds j)))) (hb : ∀ ad, va = some ad → ad.block ≠ s) :
    SPi (((w.setCell ⟨s, 2 + j, none⟩ (.int .i64 (dmL ds j).length)).setCell ⟨s, 6 + j, none⟩ (.int .i64 (lvsN (dmL ds j)).length)).drew) s p ds m (j + 1) (fun k => if k = j then (va, vc) else rv k) := by
  refine SPi.keep (w := (w.setCell ⟨s, 2 + j, none⟩ (.int .i64 (dmL ds j).length)).setCell ⟨s, 6 + j, none⟩ (.int .i64 (lvsN (dmL ds j)).length)) ?_ ((Kept.refl _).drew)
  have far : ∀ {o : Nat} {v : Value}, o ≠ 2 + j → o ≠ 6 + j → w.cell? ⟨s, o, none⟩ = some v → ((w.setCell ⟨s, 2 + j, none⟩ (.int .i64 (dmL ds j).length)).setCell ⟨s, 6 + j, none⟩ (.int .i64 (lvsN (dmL ds j)).length)).cell? ⟨s, o, none⟩ = some v := fun h1 h2 hv => by
    rw [World.cell?_setCell_other _ _ _ _ (by intro e; injection e with _ e1 _; exact h2 e1.symm), World.cell?_setCell_other _ _ _ _ (by intro e; injection e with _ e1 _; exact h1 e1.symm)]; exact hv
  refine ⟨far (by omega) (by omega) h.c0, far (by omega) (by omega) h.c1, fun k hk => ?_, fun k hk => ?_, fun k hk => ?_, fun k hk => ?_, fun k => by rw [World.frozen?_setCell, World.frozen?_setCell]; exact h.fz k⟩
  · by_cases e : k = j
    · subst e
      rw [if_pos (by omega), World.cell?_setCell_other _ _ _ _ (by intro e; injection e with _ e1 _; omega)]
      rw [show many ds k = (dmL ds k).length from if_pos hj]
      exact World.cell?_setCell_same _ _ _ (h.cm k hk)
    · have := h.cm k hk
      rw [show (if k < j + 1 then many ds k else 1) = if k < j then many ds k else 1 from by by_cases h1 : k < j; rw [if_pos h1, if_pos (by omega)]; rw [if_neg h1, if_neg (by omega)]]
      exact far (by omega) (by omega) this
  · by_cases e : k = j
    · subst e
      rw [if_pos (by omega), show leas ds k = (lvsN (dmL ds k)).length from if_pos hj]
      exact World.cell?_setCell_same _ _ _ (by rw [World.cell?_setCell_other _ _ _ _ (by intro e; injection e with _ e1 _; omega)]; exact h.cl k hk)
    · have := h.cl k hk
      rw [show (if k < j + 1 then leas ds k else 1) = if k < j then leas ds k else 1 from by by_cases h1 : k < j; rw [if_pos h1, if_pos (by omega)]; rw [if_neg h1, if_neg (by omega)]]
      exact far (by omega) (by omega) this
  · by_cases e : k = j
    · subst e
      simp only [if_true]
      exact ⟨far (by omega) (by omega) hc, sl_set (sl_set hs hb _) hb _, hb⟩
    · simp only [if_neg e]
      obtain ⟨a1, a2, a3⟩ := h.cr k (by omega)
      exact ⟨far (by omega) (by omega) a1, sl_set (sl_set a2 a3 _) a3 _, a3⟩
  · obtain ⟨v, hv⟩ := h.cn k hk
    exact ⟨v, far (by omega) (by omega) hv⟩
theorem cat_field (a b : Option Addr) (n c m d : Nat) (lv sc : Int) (W : World) : (Instr.field 25 (.agg #[.slice a n c, .slice b m d, .int .i64 lv, .int .i64 sc]) 1).run Tryz.prog W = .ok (.slice b m d) W := by kernel_rfl
def NewSP (w : World) (p : Nat) (ds : List Dm) (m : Nat) (e : Ending) (w' : World) : Prop := ∃ s rv, e = .returned (.tuple #[.pointer (some ⟨s, 0, none⟩), .int .i64 0]) ∧ SPi w' s p ds m ds.length rv ∧ w.heap.size ≤ s ∧ Kept w w'
set_option maxHeartbeats 8000000 in
set_option maxRecDepth 100000 in
theorem coord_New {w0 w : World} {p : Nat} {ds : List Dm} {tp : Nat → Nat} {ma : Option Addr} {mc : Nat} {ms : List ByteArray} {lv sc : Int} {dv : Value} (h : DP w0 w p ds tp ma mc ms lv sc dv) (hm : ds.length ≤ 4) (hg : ∀ k, k < ds.length → 1 ≤ (dmL ds k).length ∧ (dmL ds k).length ≤ 60 ∧ (∀ i, i < (dmL ds k).length → (nmA (dmL ds k) i).size ≤ maxLen) ∧ (∀ i, i < (dmL ds k).length → isI (upA (dmL ds k) i))) (hn : ∀ k, k < ds.length → (dmN ds k).size ≤ maxLen) (hml : ms.length ≤ 4) :
    Calls Tryz.prog 45 #[.pointer (some ⟨p, 0, none⟩)] w (NewSP w p ds ms.length) := by
  have HCT := hidMk (dims_Cat h hm hg hn hml)
  have HD := hidMk h
  have HMN := hidMk (fun X (kX : Kept w X) => dims_Many (h.kept kX) (by omega))
  clear h hg hn
  go_enter Tryz.func45, Tryz.ntmps45
  go_wp2_with fail
  refine HCT.out.mono ?_
  rintro e w1 ⟨a, c, na, b, d, rfl, _, _, k1⟩
  obtain ⟨s, hs⟩ : ∃ s, s = w1.heap.size := ⟨_, rfl⟩
  have hfl := fun W => cat_field a b ds.length c ms.length d lv sc W
  have HK1 := hidMk k1
  clear k1 HCT
  have HS0 := hidMk (show SP0 (w1.alloc (.cells #[.pointer (some ⟨p, 0, none⟩), .int .i64 ms.length, .int .i64 0, .int .i64 0, .int .i64 0, .int .i64 0, .int .i64 0, .int .i64 0, .int .i64 0, .int .i64 0, .slice none 0 0, .slice none 0 0, .slice none 0 0, .slice none 0 0] 148)) s p ms.length 0 from by
    have nc : ∀ (i : Nat) (v : Value), (#[.pointer (some ⟨p, 0, none⟩), .int .i64 ms.length, .int .i64 0, .int .i64 0, .int .i64 0, .int .i64 0, .int .i64 0, .int .i64 0, .int .i64 0, .int .i64 0, .slice none 0 0, .slice none 0 0, .slice none 0 0, .slice none 0 0] : Array Value)[i]? = some v → _ := fun i v hv => new_cell w1 #[.pointer (some ⟨p, 0, none⟩), .int .i64 ms.length, .int .i64 0, .int .i64 0, .int .i64 0, .int .i64 0, .int .i64 0, .int .i64 0, .int .i64 0, .int .i64 0, .slice none 0 0, .slice none 0 0, .slice none 0 0, .slice none 0 0] 148 s i v hs hv
    refine ⟨nc 0 _ rfl, nc 1 _ rfl, fun j hj => ?_, fun j hj => ?_, fun j hj => ?_, fun j => new_frozen _ _ _ hs j⟩
    all_goals
      have : j = 0 ∨ j = 1 ∨ j = 2 ∨ j = 3 := by omega
      rcases this with rfl | rfl | rfl | rfl
    · exact ⟨_, nc 2 _ rfl, fun h => absurd h (by omega)⟩
    · exact ⟨_, nc 3 _ rfl, fun h => absurd h (by omega)⟩
    · exact ⟨_, nc 4 _ rfl, fun h => absurd h (by omega)⟩
    · exact ⟨_, nc 5 _ rfl, fun h => absurd h (by omega)⟩
    · exact ⟨_, nc 6 _ rfl, fun h => absurd h (by omega)⟩
    · exact ⟨_, nc 7 _ rfl, fun h => absurd h (by omega)⟩
    · exact ⟨_, nc 8 _ rfl, fun h => absurd h (by omega)⟩
    · exact ⟨_, nc 9 _ rfl, fun h => absurd h (by omega)⟩
    · exact ⟨_, nc 10 _ rfl⟩
    · exact ⟨_, nc 11 _ rfl⟩
    · exact ⟨_, nc 12 _ rfl⟩
    · exact ⟨_, nc 13 _ rfl⟩)
  have HSL := hidMk (show w.heap.size ≤ s from by rw [hs]; exact HK1.out.size)
  have HK2 := hidMk (HK1.out.alloc (.cells #[.pointer (some ⟨p, 0, none⟩), .int .i64 ms.length, .int .i64 0, .int .i64 0, .int .i64 0, .int .i64 0, .int .i64 0, .int .i64 0, .int .i64 0, .int .i64 0, .slice none 0 0, .slice none 0 0, .slice none 0 0, .slice none 0 0] 148))
  go_wp2_with fail
  rw [← hs]
  clear hs
  go_loopg [16] 6 (fun gg x wr => ∃ k : Nat, k + gg = 6 ∧ k ≤ 4 ∧ x = .int .i64 k ∧ Hid (SP0 wr s p ms.length k ∧ Kept w wr))
  case atStart => exact ⟨0, by omega, by omega, rfl, hidMk ⟨HS0.out, HK2.out⟩⟩
  case round =>
    clear HS0 HK2
    obtain ⟨k, hkg, hk4, rfl, HS⟩ := hrel
    have HG := hidMk hkg
    clear hkg
    by_cases hk : k < 4
    · have hk' : (k : Int) < 4 := by omega
      obtain ⟨u1, hu1, _⟩ := HS.out.1.cm k hk
      obtain ⟨u2, hu2, _⟩ := HS.out.1.cl k hk
      have e1 : wr.drew.cell? ⟨s, 2 + k, none⟩ = some u1 := ((Kept.refl wr).drew).cellp hu1
      have f1 : wr.drew.frozen? ⟨s, 2 + k, none⟩ = false := HS.out.1.fz (2 + k)
      have e2 : ((wr.setCell ⟨s, 2 + k, none⟩ (.int .i64 1)).drew).cell? ⟨s, 6 + k, none⟩ = some u2 := ((Kept.refl _).drew).cellp (by
        rw [World.cell?_setCell_other _ _ _ _ (by intro e; injection e with _ e1 _; omega)]; exact hu2)
      have f2 : ((wr.setCell ⟨s, 2 + k, none⟩ (.int .i64 1)).drew).frozen? ⟨s, 6 + k, none⟩ = false := by
        show (wr.setCell ⟨s, 2 + k, none⟩ (.int .i64 1)).frozen? ⟨s, 6 + k, none⟩ = false
        rw [World.frozen?_setCell]; exact HS.out.1.fz (6 + k)
      have HN := hidMk (HS.out.1.step hk)
      have HKN := hidMk (show Kept w (((wr.setCell ⟨s, 2 + k, none⟩ (.int .i64 1)).setCell ⟨s, 6 + k, none⟩ (.int .i64 1)).drew) from ((HS.out.2.setCell (p := ⟨s, 2 + k, none⟩) HSL.out _).setCell (p := ⟨s, 6 + k, none⟩) HSL.out _).drew)
      clear hu1 hu2 HS
      go_upto_region 7 with fail
      refine wp_region_held_drew (S := (fun _ => True)) (by kernel_rfl) ?_ (fun hHeld => ?_)
      · trivial
      refine tkL 0 19 (v := ?_) rfl ?_ ?_
      rotate_left
      · (intro w9 hSw; go_simp; (try with_reducible rfl))
      (try simp only [tkS])
      refine tkL 1 20 (v := ?_) rfl ?_ ?_
      rotate_left
      · (intro w9 hSw; go_simp; (try with_reducible rfl))
      (try simp only [tkS])
      refine tkL 2 21 (v := ?_) rfl ?_ ?_
      rotate_left
      · (intro w9 hSw; go_simp; (try with_reducible rfl))
      (try simp only [tkS])
      refine tkL 3 22 (v := ?_) rfl ?_ ?_
      rotate_left
      · (intro w9 hSw; go_simp; (try with_reducible rfl))
      (try simp only [tkS])
      refine tkL 4 23 (v := ?_) rfl ?_ ?_
      rotate_left
      · (intro w9 hSw; go_simp; (try with_reducible rfl))
      (try simp only [tkS])
      refine tkL 5 24 (v := ?_) rfl ?_ ?_
      rotate_left
      · (intro w9 hSw; go_simp; (try with_reducible rfl))
      (try simp only [tkS])
      refine tkL 6 25 (v := ?_) rfl ?_ ?_
      rotate_left
      · (intro w9 hSw; go_simp; (try with_reducible rfl))
      (try simp only [tkS])
      refine tkL 8 26 (v := ?_) rfl ?_ ?_
      rotate_left
      · (intro w9 hSw; go_simp; (try with_reducible rfl))
      (try simp only [tkS])
      refine tkL 9 27 (v := ?_) rfl ?_ ?_
      rotate_left
      · (intro w9 hSw; go_simp; (try with_reducible rfl))
      (try simp only [tkS])
      refine wpAnyH_ready (rs := [7]) (by kernel_rfl) (by simp) ?_
      refine AllReadyH.cons (o := ⟨none, _, _, _, _, _⟩) rfl (fun K hK => ?_) AllReadyH.nil
      go_simp
      refine hK.out _ _ ?_ (fun hHeld => ?_)
      · trivial
      clear hK K
      (try simp only [tkS])
      refine tkL 10 28 (v := ?_) rfl ?_ ?_
      rotate_left
      · (intro w9 hSw; go_simp; (try with_reducible rfl))
      (try simp only [tkS])
      refine wpAnyH_ready (rs := [11]) (by kernel_rfl) (by simp) ?_
      refine AllReadyH.cons (o := ⟨none, _, _, _, _, _⟩) rfl (fun K hK => ?_) AllReadyH.nil
      go_simp
      refine hK.out _ _ ?_ (fun hHeld => ?_)
      · trivial
      clear hK K
      (try simp only [tkS])
      refine wpAnyH_done (by kernel_rfl) ?_ _
      go_wp2_with fail
      go_roundg (gk - 1)
      case measure => have := HG.out; omega
      case rel => exact ⟨k + 1, by have := HG.out; omega, by omega, by go_num, hidMk ⟨HN.out, HKN.out⟩⟩
    · have hke : k = 4 := by omega
      subst hke
      have HSP := hidMk (HS.out.1.all ds (fun _ => (none, 0)))
      have HKR := hidMk HS.out.2
      clear HS hk HG
      go_wp2_with fail
      refine (HMN.out _ HKR.out).mono ?_
      rintro e w2 ⟨rfl, hw2⟩
      rw [hw2]
      clear hw2 w2
      go_wp2_with fail
      go_loopg [32] (ds.length + 1) (fun gg x wr => ∃ (j : Nat) (rv : Nat → Option Addr × Nat), j + gg = ds.length + 1 ∧ j ≤ ds.length ∧ x = .int .i64 j ∧ Hid (SPi wr s p ds ms.length j rv ∧ Kept w wr))
      case atStart => exact ⟨0, fun _ => (none, 0), by omega, by omega, rfl, hidMk ⟨HSP.out, HKR.out⟩⟩
      case round =>
        clear HSP HKR
        obtain ⟨j, rv, hjg, hjd, rfl, HS⟩ := hrel
        have HG := hidMk hjg
        clear hjg
        by_cases hj : j < ds.length
        · have hj' : (j : Int) < (ds.length : Int) := by omega
          have hj4 : (j : Int) < 4 := by omega
          have hjn : j < 4 := by omega
          have HTR := hidMk (show ∀ X, Kept w X → Calls Tryz.prog 95 #[.pointer (some ⟨p, 0, none⟩), .int .i64 j] X fun e w' => e = .returned (.pointer (some ⟨tp j, 0, none⟩)) ∧ w' = X from fun X kX => by
            have := dims_Tree (HD.out.kept kX) hm (j : Int)
            rw [show treeP ds tp (j : Int) = some ⟨tp j, 0, none⟩ from by unfold treeP; rw [if_pos ⟨by omega, hj'⟩]; rfl] at this
            exact this)
          have HWH := hidMk (show ∀ X, Kept w X → Whole X (tp j) (dmL ds j) from fun X kX => by obtain ⟨lo, hi, hsd, _⟩ := (HD.out.kept kX).tr j hj; exact hsd.whole)
          have HLV := hidMk (fun X (kX : Kept w X) => w_Leaves (HWH.out X kX))
          have HLE := hidMk (fun X (kX : Kept w X) => w_Len (HWH.out X kX))
          obtain ⟨u, hu⟩ := HS.out.1.cn j hjn
          have HC10 := hidMk hu
          have HFZ := hidMk HS.out.1.fz
          obtain ⟨LN, hLN⟩ : ∃ n, n = (lvsN (dmL ds j)).length := ⟨_, rfl⟩
          obtain ⟨LL, hLL⟩ : ∃ n, n = (dmL ds j).length := ⟨_, rfl⟩
          have HLN := hidMk (show (ints (lvsN (dmL ds j))).length ≤ maxLen from by rw [ints_len]; obtain ⟨_, _, _, _, _, _, _, _, _, _, _, ⟨a9, c9, _, h9⟩, _⟩ := (HWH.out wr HS.out.2).ex; exact h9.big)
          have HKD0 := hidMk (HS.out.2.drew)
          have HSW := hidMk (show s < wr.heap.size from cell_lt HS.out.1.c0)
          clear hu
          go_upto_region 12 with fail
          go_cut [] from 35 to 43 (fun W' => ∃ va vc, Hid (SPi W' s p ds ms.length j rv ∧ W'.cell? ⟨s, 10 + j, none⟩ = some (.slice va LN vc) ∧ Sl .i64 W' va LN (ints (lvsN (dmL ds j))) ∧ (∀ ad, va = some ad → ad.block ≠ s) ∧ Kept w W'))
          case first =>
            refine wp_region_held_drew (S := (fun _ => True)) (by kernel_rfl) ?_ (fun hHeld => ?_)
            · trivial
            refine tkL 0 35 (v := ?_) rfl ?_ ?_
            rotate_left
            · (intro w9 hSw; go_simp; (try with_reducible rfl))
            (try simp only [tkS])
            refine tkL 1 36 (v := ?_) rfl ?_ ?_
            rotate_left
            · (intro w9 hSw; go_simp; (try with_reducible rfl))
            (try simp only [tkS])
            refine tkL 2 37 (v := ?_) rfl ?_ ?_
            rotate_left
            · (intro w9 hSw; go_simp; (try with_reducible rfl))
            (try simp only [tkS])
            refine tkL 3 38 (v := ?_) rfl ?_ ?_
            rotate_left
            · (intro w9 hSw; go_simp; (try with_reducible rfl))
            (try simp only [tkS])
            refine tkL 6 41 (v := ?_) rfl ?_ ?_
            rotate_left
            · (intro w9 hSw; go_simp; (try with_reducible rfl))
            (try simp only [tkS])
            refine tkL 7 42 (v := ?_) rfl ?_ ?_
            rotate_left
            · (intro w9 hSw; go_simp; (try with_reducible rfl))
            (try simp only [tkS])
            refine wpAnyH_ready (rs := [4]) (by kernel_rfl) (by simp) ?_
            refine AllReadyH.cons (o := ⟨some 39, _, _, _, _, _⟩) rfl (fun K hK => ?_) AllReadyH.nil
            go_simp
            refine (HTR.out _ HKD0.out).mono ?_
            rintro e w3 ⟨rfl, hw3⟩
            rw [hw3]
            clear hw3 w3
            (try go_wp2_with fail)
            refine hK.out _ _ ?_ (fun hHeld => ?_)
            · trivial
            clear hK K
            (try simp only [tkS])
            refine wpAnyH_ready (rs := [5]) (by kernel_rfl) (by simp) ?_
            refine AllReadyH.cons (o := ⟨some 40, _, _, _, _, _⟩) rfl (fun K hK => ?_) AllReadyH.nil
            go_simp
            refine (HLV.out _ HKD0.out).mono ?_
            rintro e wL ⟨v, rfl, hoL, kL⟩
            obtain ⟨va, vc, hva, hvs⟩ := hoL.sl HLN.out
            subst hva
            have HVS := hidMk hvs
            have HVB := hidMk (show ∀ ad, va = some ad → ad.block ≠ s from fun ad had => by subst had; have h1 := own_fresh hoL; have h2 := HSW.out; have h3 : wr.drew.heap.size = wr.heap.size := rfl; omega)
            have HKL := hidMk kL
            have e1 := kL.cellp (((Kept.refl wr).drew).cellp HC10.out)
            have ef1 : wL.frozen? ⟨s, 10 + j, none⟩ = false := (kL.frozen (p := ⟨s, 10 + j, none⟩) (cell_lt (((Kept.refl wr).drew).cellp HC10.out))).trans (HFZ.out (10 + j))
            clear hvs kL hoL
            (try go_wp2_with fail)
            refine hK.out _ _ ?_ (fun hHeld => ?_)
            · trivial
            clear hK K
            (try simp only [tkS])
            refine tkL 8 43 (v := ?_) rfl ?_ ?_
            rotate_left
            · (intro w9 hSw; go_simp; (try with_reducible rfl))
            (try simp only [tkS])
            refine wpAnyH_ready (rs := [9]) (by kernel_rfl) (by simp) ?_
            refine AllReadyH.cons (o := ⟨none, _, _, _, _, _⟩) rfl (fun K hK => ?_) AllReadyH.nil
            go_simp
            refine hK.out _ _ ?_ (fun hHeld => ?_)
            · trivial
            clear hK K
            (try simp only [tkS])
            refine wpAnyH_done (by kernel_rfl) ?_ _
            go_wp2_with fail
            go_meet
            have hlen : (ints (lvsN (dmL ds j))).length = LN := by rw [ints_len, hLN]
            have hv := HVS.out
            rw [hlen] at hv ⊢
            exact ⟨va, vc, hidMk ⟨(HS.out.1.keep (((Kept.refl wr).drew).trans HKL.out)).put10 (Nat.le_refl j) _, World.cell?_setCell_same _ _ _ e1, sl_set hv HVB.out _, HVB.out, (HKD0.out.trans HKL.out).setCell (p := ⟨s, 10 + j, none⟩) HSL.out _⟩⟩
          case rest =>
            obtain ⟨va, vc, HM⟩ := hcut
            have HC10 := hidMk HM.out.2.1
            have HKD := hidMk (HM.out.2.2.2.2.drew)
            have hcm := HM.out.1.cm j hjn
            have hcl := HM.out.1.cl j hjn
            rw [if_neg (by omega)] at hcm hcl
            have e1 : wc.drew.cell? ⟨s, 2 + j, none⟩ = some (.int .i64 ((1 : Nat) : Int)) := ((Kept.refl wc).drew).cellp hcm
            have f1 : wc.drew.frozen? ⟨s, 2 + j, none⟩ = false := HM.out.1.fz (2 + j)
            have e2 : ((wc.setCell ⟨s, 2 + j, none⟩ (.int .i64 LL)).drew).cell? ⟨s, 6 + j, none⟩ = some (.int .i64 ((1 : Nat) : Int)) := ((Kept.refl _).drew).cellp (by
              rw [World.cell?_setCell_other _ _ _ _ (by intro e; injection e with _ e1 _; omega)]; exact hcl)
            have f2 : ((wc.setCell ⟨s, 2 + j, none⟩ (.int .i64 LL)).drew).frozen? ⟨s, 6 + j, none⟩ = false := by
              show (wc.setCell ⟨s, 2 + j, none⟩ (.int .i64 LL)).frozen? ⟨s, 6 + j, none⟩ = false
              rw [World.frozen?_setCell]; exact HM.out.1.fz (6 + j)
            have HQ1 := hidMk (show ((wc.setCell ⟨s, 2 + j, none⟩ (.int .i64 LL)).drew).cell? ⟨s, 10 + j, none⟩ = some (.slice va LN vc) from ((Kept.refl _).drew).cellp (by
              rw [World.cell?_setCell_other _ _ _ _ (by intro e; injection e with _ e1 _; omega)]; exact HM.out.2.1))
            have HQ2 := hidMk (show (((wc.setCell ⟨s, 2 + j, none⟩ (.int .i64 LL)).setCell ⟨s, 6 + j, none⟩ (.int .i64 LN)).drew).cell? ⟨s, 10 + j, none⟩ = some (.slice va LN vc) from ((Kept.refl _).drew).cellp (by
              rw [World.cell?_setCell_other _ _ _ _ (by intro e; injection e with _ e1 _; omega), World.cell?_setCell_other _ _ _ _ (by intro e; injection e with _ e1 _; omega)]; exact HM.out.2.1))
            have HFN := hidMk (show SPi (((wc.setCell ⟨s, 2 + j, none⟩ (.int .i64 LL)).setCell ⟨s, 6 + j, none⟩ (.int .i64 LN)).drew) s p ds ms.length (j + 1) (fun k => if k = j then (va, vc) else rv k) ∧ Kept w (((wc.setCell ⟨s, 2 + j, none⟩ (.int .i64 LL)).setCell ⟨s, 6 + j, none⟩ (.int .i64 LN)).drew) from by
              obtain ⟨m1, m2, m3, m4, m5⟩ := HM.out
              refine ⟨?_, ((m5.setCell (p := ⟨s, 2 + j, none⟩) HSL.out _).setCell (p := ⟨s, 6 + j, none⟩) HSL.out _).drew⟩
              rw [hLN] at m2 m3
              rw [hLL, hLN]
              exact m1.next hj hm m2 m3 m4)
            have HLE2 := hidMk (show ∀ X, Kept w X → Calls Tryz.prog 97 #[.pointer (some ⟨tp j, 0, none⟩)] X fun e w' => e = .returned (.int .i64 LL) ∧ w' = X from fun X kX => by rw [hLL]; exact HLE.out X kX)
            clear hcm hcl HM hLN hLL HLE HLV HWH HS HLN HSW HKD0
            have HLE := HLE2
            go_upto_region 13 with fail
            refine wp_region_held_drew (S := (fun w' => w'.cell? ⟨s, 10 + j, none⟩ = some (.slice va LN vc))) (by kernel_rfl) ?_ (fun hHeld => ?_)
            · exact ((Kept.refl wc).drew).cellp HC10.out
            refine tkL 0 44 (v := ?_) rfl ?_ ?_
            rotate_left
            · (intro w9 hSw; go_simp; (try with_reducible rfl))
            (try simp only [tkS])
            refine tkL 1 45 (v := ?_) rfl ?_ ?_
            rotate_left
            · (intro w9 hSw; go_simp; (try with_reducible rfl))
            (try simp only [tkS])
            refine tkL 2 46 (v := ?_) rfl ?_ ?_
            rotate_left
            · (intro w9 hSw; go_simp; (try with_reducible rfl))
            (try simp only [tkS])
            refine tkL 3 47 (v := ?_) rfl ?_ ?_
            rotate_left
            · (intro w9 hSw; go_simp; (try with_reducible rfl))
            (try simp only [tkS])
            refine tkL 4 48 (v := ?_) rfl ?_ ?_
            rotate_left
            · (intro w9 hSw; go_simp; (try with_reducible rfl))
            (try simp only [tkS])
            refine tkL 5 49 (v := ?_) rfl ?_ ?_
            rotate_left
            · (intro w9 hSw; go_simp; (try with_reducible rfl))
            (try simp only [tkS])
            refine tkL 8 52 (v := ?_) rfl ?_ ?_
            rotate_left
            · (intro w9 hSw; go_simp; (try with_reducible rfl))
            (try simp only [tkS])
            refine tkL 9 53 (v := ?_) rfl ?_ ?_
            rotate_left
            · (intro w9 hSw; go_simp; (try with_reducible rfl))
            (try simp only [tkS])
            refine tkL 10 54 (v := ?_) rfl ?_ ?_
            rotate_left
            · (intro w9 hSw; go_simp; (try with_reducible rfl))
            (try simp only [tkS])
            refine tkL 11 55 (v := ?_) rfl ?_ ?_
            rotate_left
            · (intro w9 hSw; go_simp; (try with_reducible rfl))
            (try simp only [tkS])
            refine tkL 12 56 (v := ?_) rfl ?_ ?_
            rotate_left
            · (intro w9 hSw; go_simp; (try with_reducible rfl))
            (try simp only [tkS])
            refine tkL 13 57 (v := ?_) rfl ?_ ?_
            rotate_left
            · (intro w9 hSw; go_simp; (try with_reducible rfl))
            (try simp only [tkS])
            refine tkL 14 58 (v := ?_) rfl ?_ ?_
            rotate_left
            · (intro w9 hSw; go_simp; (try with_reducible rfl))
            (try simp only [tkS])
            refine tkL 15 59 (v := ?_) rfl ?_ ?_
            rotate_left
            · (intro w9 hSw; go_simp; (try with_reducible rfl))
            (try simp only [tkS])
            refine tkL 16 60 (v := ?_) rfl ?_ ?_
            rotate_left
            · (intro w9 hSw; go_simp; (try with_reducible rfl))
            (try simp only [tkS])
            refine tkL 19 62 (v := ?_) rfl ?_ ?_
            rotate_left
            · (intro w9 hSw; go_simp; (try with_reducible rfl))
            (try simp only [tkS])
            refine tkL 20 63 (v := ?_) rfl ?_ ?_
            rotate_left
            · (intro w9 hSw; go_simp; (try with_reducible rfl))
            (try simp only [tkS])
            refine wpAnyH_ready (rs := [6]) (by kernel_rfl) (by simp) ?_
            refine AllReadyH.cons (o := ⟨some 50, _, _, _, _, _⟩) rfl (fun K hK => ?_) AllReadyH.nil
            go_simp
            refine (HTR.out _ HKD.out).mono ?_
            rintro e w3 ⟨rfl, hw3⟩
            rw [hw3]
            clear hw3 w3
            (try go_wp2_with fail)
            refine hK.out _ _ ?_ (fun hHeld => ?_)
            · (first | assumption | exact HQ1.out | exact HQ2.out)
            clear hK K
            (try simp only [tkS])
            refine wpAnyH_ready (rs := [7]) (by kernel_rfl) (by simp) ?_
            refine AllReadyH.cons (o := ⟨some 51, _, _, _, _, _⟩) rfl (fun K hK => ?_) AllReadyH.nil
            go_simp
            refine (HLE.out _ HKD.out).mono ?_
            rintro e w3 ⟨rfl, hw3⟩
            rw [hw3]
            clear hw3 w3
            (try go_wp2_with fail)
            refine hK.out _ _ ?_ (fun hHeld => ?_)
            · (first | assumption | exact HQ1.out | exact HQ2.out)
            clear hK K
            (try simp only [tkS])
            refine tkL 17 61 (v := ?_) rfl ?_ ?_
            rotate_left
            · (intro w9 hSw; go_simp; (try with_reducible rfl))
            (try simp only [tkS])
            refine wpAnyH_ready (rs := [18]) (by kernel_rfl) (by simp) ?_
            refine AllReadyH.cons (o := ⟨none, _, _, _, _, _⟩) rfl (fun K hK => ?_) AllReadyH.nil
            go_simp
            refine hK.out _ _ ?_ (fun hHeld => ?_)
            · (first | assumption | exact HQ1.out | exact HQ2.out)
            clear hK K
            (try simp only [tkS])
            refine tkL 21 64 (v := ?_) rfl ?_ ?_
            rotate_left
            · (intro w9 hSw; go_simp; (try with_reducible rfl))
            (try simp only [tkS])
            refine wpAnyH_ready (rs := [22]) (by kernel_rfl) (by simp) ?_
            refine AllReadyH.cons (o := ⟨none, _, _, _, _, _⟩) rfl (fun K hK => ?_) AllReadyH.nil
            go_simp
            refine hK.out _ _ ?_ (fun hHeld => ?_)
            · (first | assumption | exact HQ1.out | exact HQ2.out)
            clear hK K
            (try simp only [tkS])
            refine wpAnyH_done (by kernel_rfl) ?_ _
            clear hHeld
            go_wp2_with fail
            go_roundg (gk - 1)
            case measure => have := HG.out; omega
            case rel => exact ⟨j + 1, _, by have := HG.out; omega, by omega, by go_num, HFN⟩
        · have hje : j = ds.length := by omega
          subst hje
          have hj' : ¬ ((ds.length : Int) < (ds.length : Int)) := by omega
          go_wp2_with fail
          go_ret2
          exact ⟨s, rv, rfl, HS.out.1, HSL.out, HS.out.2⟩
end Go.Proofs.YtmedgkccicbieaaGreat
namespace Go.Proofs.YtmedgkccicbieaaGreat
open Go.RowKit Go.Maps Go.Shelf
set_option linter.unusedSimpArgs false
set_option linter.unusedVariables false
attribute [local go_sem] Oper.semAt_some

structure SW (w : World) (s p : Nat) (ds : List Dm) (ms : List ByteArray) (tp : Nat → Nat) (rv : Nat → Option Addr × Nat) : Prop where
  dp : ∃ w0 ma mc lv sc dv, DP w0 w p ds tp ma mc ms lv sc dv
  sp : SPi w s p ds ms.length ds.length rv
  d1 : 1 ≤ ds.length
  d4 : ds.length ≤ 4
  m4 : ms.length ≤ 4
  l60 : ∀ k, k < ds.length → 1 ≤ (dmL ds k).length ∧ (dmL ds k).length ≤ 60 ∧ (lvsN (dmL ds k)).length ≤ 60
  ln : ∀ k, k < ds.length → 1 ≤ (lvsN (dmL ds k)).length
section
variable {w : World} {s p : Nat} {ds : List Dm} {ms : List ByteArray} {tp : Nat → Nat} {rv : Nat → Option Addr × Nat}
theorem SW.keep (h : SW w s p ds ms tp rv) {y : World} (k : Kept w y) : SW y s p ds ms tp rv := by
  obtain ⟨w0, ma, mc, lv, sc, dv, hd⟩ := h.dp
  exact ⟨⟨w0, ma, mc, lv, sc, dv, hd.kept k⟩, h.sp.keep k, h.d1, h.d4, h.m4, h.l60, h.ln⟩
theorem SW.whole (h : SW w s p ds ms tp rv) {k : Nat} (hk : k < ds.length) : Whole w (tp k) (dmL ds k) := by
  obtain ⟨w0, ma, mc, lv, sc, dv, hd⟩ := h.dp
  obtain ⟨lo, hi, hsd, _⟩ := hd.tr k hk
  exact hsd.whole
theorem sw_Dims (h : SW w s p ds ms tp rv) : Calls Tryz.prog 100 #[.pointer (some ⟨s, 0, none⟩)] w fun e w' => e = .returned (.pointer (some ⟨p, 0, none⟩)) ∧ w' = w := by
  have c0 := h.sp.c0
  clear h
  go_enter Tryz.func100, Tryz.ntmps100
  go_wp2_with fail
  go_ret
  exact ⟨rfl, rfl⟩
theorem sw_Right (h : SW w s p ds ms tp rv) (cm : Int) (at_ : Nat → Int) : Calls Tryz.prog 101 #[.pointer (some ⟨p, 0, none⟩), cellV cm at_] w fun e w' => e = .returned (.bool (rightB ms ds cm at_)) ∧ Kept w w' := by
  obtain ⟨w0, ma, mc, lv, sc, dv, hd⟩ := h.dp
  exact dims_Right hd h.d4 cm at_
theorem sw_Many (h : SW w s p ds ms tp rv) : Calls Tryz.prog 94 #[.pointer (some ⟨p, 0, none⟩)] w fun e w' => e = .returned (.int .i64 ds.length) ∧ w' = w := by
  obtain ⟨w0, ma, mc, lv, sc, dv, hd⟩ := h.dp
  exact dims_Many hd (by have := h.d4; omega)
theorem sw_Tree (h : SW w s p ds ms tp rv) {k : Nat} (hk : k < ds.length) : Calls Tryz.prog 95 #[.pointer (some ⟨p, 0, none⟩), .int .i64 k] w fun e w' => e = .returned (.pointer (some ⟨tp k, 0, none⟩)) ∧ w' = w := by
  obtain ⟨w0, ma, mc, lv, sc, dv, hd⟩ := h.dp
  have := dims_Tree hd h.d4 (k : Int)
  rw [show treeP ds tp (k : Int) = some ⟨tp k, 0, none⟩ from by unfold treeP; rw [if_pos ⟨by omega, by omega⟩]; rfl] at this
  exact this
theorem leas_bound (h : SW w s p ds ms tp rv) (k : Nat) : 0 ≤ (leas ds k : Int) ∧ (leas ds k : Int) ≤ 1000 := by
  unfold leas; split
  · next e => have := h.l60 k e; omega
  · omega
theorem many_bound (h : SW w s p ds ms tp rv) (k : Nat) : 0 ≤ (many ds k : Int) ∧ (many ds k : Int) ≤ 1000 := by
  unfold many; split
  · next e => have := h.l60 k e; omega
  · omega
theorem SW.counts (h : SW w s p ds ms tp rv) : (w.cell? ⟨s, 2, none⟩ = some (.int .i64 (many ds 0)) ∧ w.cell? ⟨s, 3, none⟩ = some (.int .i64 (many ds 1)) ∧ w.cell? ⟨s, 4, none⟩ = some (.int .i64 (many ds 2)) ∧ w.cell? ⟨s, 5, none⟩ = some (.int .i64 (many ds 3))) ∧ (w.cell? ⟨s, 6, none⟩ = some (.int .i64 (leas ds 0)) ∧ w.cell? ⟨s, 7, none⟩ = some (.int .i64 (leas ds 1)) ∧ w.cell? ⟨s, 8, none⟩ = some (.int .i64 (leas ds 2)) ∧ w.cell? ⟨s, 9, none⟩ = some (.int .i64 (leas ds 3))) := by
  have hm : ∀ k, k < 4 → w.cell? ⟨s, 2 + k, none⟩ = some (.int .i64 (many ds k)) := fun k hk => by
    rw [h.sp.cm k hk]
    by_cases e : k < ds.length
    · rw [if_pos e]
    · rw [if_neg e, show many ds k = 1 from if_neg e]
  have hl : ∀ k, k < 4 → w.cell? ⟨s, 6 + k, none⟩ = some (.int .i64 (leas ds k)) := fun k hk => by
    rw [h.sp.cl k hk]
    by_cases e : k < ds.length
    · rw [if_pos e]
    · rw [if_neg e, show leas ds k = 1 from if_neg e]
  exact ⟨⟨hm 0 (by omega), hm 1 (by omega), hm 2 (by omega), hm 3 (by omega)⟩, hl 0 (by omega), hl 1 (by omega), hl 2 (by omega), hl 3 (by omega)⟩
theorem right_bounds {cm : Int} {at_ : Nat → Int} (h : SW w s p ds ms tp rv) (hr : rightB ms ds cm at_ = true) : (0 ≤ cm ∧ cm ≤ 1000) ∧ ∀ k, k < 4 → 0 ≤ at_ k ∧ at_ k ≤ 1000 ∧ at_ k < many ds k := by
  unfold rightB placeB at hr
  simp only [Bool.and_eq_true, decide_eq_true_eq] at hr
  obtain ⟨h0, h1, h2, h3, h4⟩ := hr
  have hb := fun k => many_bound h k
  refine ⟨by have := h.m4; omega, fun k hk => ?_⟩
  have : k = 0 ∨ k = 1 ∨ k = 2 ∨ k = 3 := by omega
  rcases this with rfl | rfl | rfl | rfl
  · have := hb 0; omega
  · have := hb 1; omega
  · have := hb 2; omega
  · have := hb 3; omega
-- A cell's number: no cell that can not be.
set_option maxHeartbeats 4000000 in
set_option maxRecDepth 100000 in
theorem sw_Index (h : SW w s p ds ms tp rv) (cm : Int) (at_ : Nat → Int) : Calls Tryz.prog 53 #[.pointer (some ⟨s, 0, none⟩), cellV cm at_] w fun e w' => e = .returned (.int .i64 (if rightB ms ds cm at_ then numK (fun k => many ds k) at_ cm 4 else -1)) ∧ Kept w w' := by
  obtain ⟨cb, hcb⟩ : ∃ x, x = w.heap.size := ⟨_, rfl⟩
  obtain ⟨W1, hW1⟩ : ∃ X, X = w.alloc (.cells #[.int .i64 cm, .int .i64 (at_ 0), .int .i64 (at_ 1), .int .i64 (at_ 2), .int .i64 (at_ 3)] 29) := ⟨_, rfl⟩
  have k1 : Kept w W1 := by rw [hW1]; exact (Kept.refl w).alloc _
  have HCC := hidMk (show W1.cell? ⟨cb, 0, none⟩ = some (.int .i64 cm) ∧ W1.cell? ⟨cb, 1, none⟩ = some (.int .i64 (at_ 0)) ∧ W1.cell? ⟨cb, 2, none⟩ = some (.int .i64 (at_ 1)) ∧ W1.cell? ⟨cb, 3, none⟩ = some (.int .i64 (at_ 2)) ∧ W1.cell? ⟨cb, 4, none⟩ = some (.int .i64 (at_ 3)) from by
    rw [hW1]; exact ⟨new_cell _ _ _ _ 0 _ hcb rfl, new_cell _ _ _ _ 1 _ hcb rfl, new_cell _ _ _ _ 2 _ hcb rfl, new_cell _ _ _ _ 3 _ hcb rfl, new_cell _ _ _ _ 4 _ hcb rfl⟩)
  have HDM := hidMk (fun X (kX : Kept W1 X) => sw_Dims (h.keep (k1.trans kX)))
  have HRT := hidMk (fun X (kX : Kept W1 X) => sw_Right (h.keep (k1.trans kX)) cm at_)
  have HCN := hidMk (fun X (kX : Kept W1 X) => (h.keep (k1.trans kX)).counts.1)
  have HNM := hidMk (fun (hr : rightB ms ds cm at_ = true) X => coord_number (fun k => many ds k) (fun k => if k < 4 then at_ k else 0) cm (right_bounds h hr).1 (fun k => many_bound h k) (fun k => by
    by_cases e : k < 4
    · simp only [if_pos e]; have := (right_bounds h hr).2 k e; omega
    · simp only [if_neg e]; omega) X)
  have HEQ := hidMk (show numK (fun k => many ds k) (fun k => if k < 4 then at_ k else 0) cm 4 = numK (fun k => many ds k) at_ cm 4 from rfl)
  have HK1 := hidMk k1
  unfold cellV at *
  unfold arr4 at HNM
  simp only [show (0 : Nat) < 4 from by omega, show (1 : Nat) < 4 from by omega, show (2 : Nat) < 4 from by omega, show (3 : Nat) < 4 from by omega, if_true] at HNM
  rw [HEQ.out] at HNM
  clear h k1
  obtain ⟨rz, HRZ⟩ : ∃ z, Hid (z = (if rightB ms ds cm at_ = true then numK (fun k => many ds k) at_ cm 4 else -1)) := ⟨_, hidMk rfl⟩
  rw [← HRZ.out]
  go_enter Tryz.func53, Tryz.ntmps53
  go_upto_region 1 with fail
  rw [← hW1, ← hcb]
  clear hW1 hcb
  refine wp_region_held_drew (S := (fun w' => Kept W1 w')) (by kernel_rfl) ?_ (fun hHeld => ?_)
  · exact (Kept.refl W1).drew
  refine tkL 0 5 (v := ?_) rfl ?_ ?_
  rotate_left
  · (intro w9 hSw; have s0 := hSw.cellp HCC.out.1; have s1 := hSw.cellp HCC.out.2.1; have s2 := hSw.cellp HCC.out.2.2.1; have s3 := hSw.cellp HCC.out.2.2.2.1; have s4 := hSw.cellp HCC.out.2.2.2.2; obtain ⟨q0, q1, q2, q3⟩ := HCN.out w9 hSw; clear hSw; go_simp; (try with_reducible rfl))
  (try simp only [tkS])
  refine tkL 2 7 (v := ?_) rfl ?_ ?_
  rotate_left
  · (intro w9 hSw; have s0 := hSw.cellp HCC.out.1; have s1 := hSw.cellp HCC.out.2.1; have s2 := hSw.cellp HCC.out.2.2.1; have s3 := hSw.cellp HCC.out.2.2.2.1; have s4 := hSw.cellp HCC.out.2.2.2.2; obtain ⟨q0, q1, q2, q3⟩ := HCN.out w9 hSw; clear hSw; go_simp; (try with_reducible rfl))
  (try simp only [tkS])
  refine wpAnyH_ready (rs := [1]) (by kernel_rfl) (by simp) ?_
  refine AllReadyH.cons (o := ⟨some 6, _, _, _, _, _⟩) rfl (fun K hK => ?_) AllReadyH.nil
  go_simp
  refine (HDM.out _ hHeld).mono ?_
  rintro e w3 ⟨rfl, hw3⟩
  rw [hw3]
  clear hw3 w3
  (try go_wp2_with fail)
  refine hK.out _ _ ?_ (fun hHeld => ?_)
  · (first | exact HKR.out | assumption)
  clear hK K
  (try simp only [tkS])
  refine wpAnyH_ready (rs := [3]) (by kernel_rfl) (by simp) ?_
  refine AllReadyH.cons (o := ⟨some 8, _, _, _, _, _⟩) rfl (fun K hK => ?_) AllReadyH.nil
  go_simp
  refine (HRT.out _ hHeld).mono ?_
  rintro e wR ⟨rfl, kR⟩
  have HKR := hidMk (hHeld.trans kR)
  clear kR
  (try go_wp2_with fail)
  refine hK.out _ _ ?_ (fun hHeld => ?_)
  · (first | exact HKR.out | assumption)
  clear hK K
  (try simp only [tkS])
  refine tkL 4 9 (v := ?_) rfl ?_ ?_
  rotate_left
  · (intro w9 hSw; have s0 := hSw.cellp HCC.out.1; have s1 := hSw.cellp HCC.out.2.1; have s2 := hSw.cellp HCC.out.2.2.1; have s3 := hSw.cellp HCC.out.2.2.2.1; have s4 := hSw.cellp HCC.out.2.2.2.2; obtain ⟨q0, q1, q2, q3⟩ := HCN.out w9 hSw; clear hSw; go_simp; (try with_reducible rfl))
  (try simp only [tkS])
  refine wpAnyH_done (by kernel_rfl) ?_ _
  clear hHeld
  cases hr : rightB ms ds cm at_ with
  | false =>
    go_wp2_with fail
    go_ret
    have := HRZ.out
    rw [hr] at this
    rw [this]
    exact ⟨rfl, HK1.out.trans HKR.out⟩
  | true =>
    have HN2 := hidMk (HNM.out hr)
    clear HNM
    have hmk := HCN.out
    generalize (many ds 0 : Nat) = n0 at *
    generalize (many ds 1 : Nat) = n1 at *
    generalize (many ds 2 : Nat) = n2 at *
    generalize (many ds 3 : Nat) = n3 at *
    go_upto_region 3 with fail
    refine wp_region_held_drew (S := (fun w' => Kept W1 w')) (by kernel_rfl) ?_ (fun hHeld => ?_)
    · exact HKR.out.drew
    refine tkL 0 10 (v := ?_) rfl ?_ ?_
    rotate_left
    · (intro w9 hSw; have s0 := hSw.cellp HCC.out.1; have s1 := hSw.cellp HCC.out.2.1; have s2 := hSw.cellp HCC.out.2.2.1; have s3 := hSw.cellp HCC.out.2.2.2.1; have s4 := hSw.cellp HCC.out.2.2.2.2; obtain ⟨q0, q1, q2, q3⟩ := HCN.out w9 hSw; clear hSw; go_simp; (try with_reducible rfl))
    (try simp only [tkS])
    refine tkL 1 11 (v := ?_) rfl ?_ ?_
    rotate_left
    · (intro w9 hSw; have s0 := hSw.cellp HCC.out.1; have s1 := hSw.cellp HCC.out.2.1; have s2 := hSw.cellp HCC.out.2.2.1; have s3 := hSw.cellp HCC.out.2.2.2.1; have s4 := hSw.cellp HCC.out.2.2.2.2; obtain ⟨q0, q1, q2, q3⟩ := HCN.out w9 hSw; clear hSw; go_simp; (try with_reducible rfl))
    (try simp only [tkS])
    refine tkL 2 12 (v := ?_) rfl ?_ ?_
    rotate_left
    · (intro w9 hSw; have s0 := hSw.cellp HCC.out.1; have s1 := hSw.cellp HCC.out.2.1; have s2 := hSw.cellp HCC.out.2.2.1; have s3 := hSw.cellp HCC.out.2.2.2.1; have s4 := hSw.cellp HCC.out.2.2.2.2; obtain ⟨q0, q1, q2, q3⟩ := HCN.out w9 hSw; clear hSw; go_simp; (try with_reducible rfl))
    (try simp only [tkS])
    refine tkL 3 13 (v := ?_) rfl ?_ ?_
    rotate_left
    · (intro w9 hSw; have s0 := hSw.cellp HCC.out.1; have s1 := hSw.cellp HCC.out.2.1; have s2 := hSw.cellp HCC.out.2.2.1; have s3 := hSw.cellp HCC.out.2.2.2.1; have s4 := hSw.cellp HCC.out.2.2.2.2; obtain ⟨q0, q1, q2, q3⟩ := HCN.out w9 hSw; clear hSw; go_simp; (try with_reducible rfl))
    (try simp only [tkS])
    refine tkL 4 14 (v := ?_) rfl ?_ ?_
    rotate_left
    · (intro w9 hSw; have s0 := hSw.cellp HCC.out.1; have s1 := hSw.cellp HCC.out.2.1; have s2 := hSw.cellp HCC.out.2.2.1; have s3 := hSw.cellp HCC.out.2.2.2.1; have s4 := hSw.cellp HCC.out.2.2.2.2; obtain ⟨q0, q1, q2, q3⟩ := HCN.out w9 hSw; clear hSw; go_simp; (try with_reducible rfl))
    (try simp only [tkS])
    refine tkL 5 15 (v := ?_) rfl ?_ ?_
    rotate_left
    · (intro w9 hSw; have s0 := hSw.cellp HCC.out.1; have s1 := hSw.cellp HCC.out.2.1; have s2 := hSw.cellp HCC.out.2.2.1; have s3 := hSw.cellp HCC.out.2.2.2.1; have s4 := hSw.cellp HCC.out.2.2.2.2; obtain ⟨q0, q1, q2, q3⟩ := HCN.out w9 hSw; clear hSw; go_simp; (try with_reducible rfl))
    (try simp only [tkS])
    refine tkL 6 16 (v := ?_) rfl ?_ ?_
    rotate_left
    · (intro w9 hSw; have s0 := hSw.cellp HCC.out.1; have s1 := hSw.cellp HCC.out.2.1; have s2 := hSw.cellp HCC.out.2.2.1; have s3 := hSw.cellp HCC.out.2.2.2.1; have s4 := hSw.cellp HCC.out.2.2.2.2; obtain ⟨q0, q1, q2, q3⟩ := HCN.out w9 hSw; clear hSw; go_simp; (try with_reducible rfl))
    (try simp only [tkS])
    refine tkL 7 17 (v := ?_) rfl ?_ ?_
    rotate_left
    · (intro w9 hSw; have s0 := hSw.cellp HCC.out.1; have s1 := hSw.cellp HCC.out.2.1; have s2 := hSw.cellp HCC.out.2.2.1; have s3 := hSw.cellp HCC.out.2.2.2.1; have s4 := hSw.cellp HCC.out.2.2.2.2; obtain ⟨q0, q1, q2, q3⟩ := HCN.out w9 hSw; clear hSw; go_simp; (try with_reducible rfl))
    (try simp only [tkS])
    refine wpAnyH_ready (rs := [8]) (by kernel_rfl) (by simp) ?_
    refine AllReadyH.cons (o := ⟨some 18, _, _, _, _, _⟩) rfl (fun K hK => ?_) AllReadyH.nil
    go_simp
    refine (HN2.out _).mono ?_
    rintro e wN ⟨rfl, kN⟩
    have HKN := hidMk kN
    clear kN
    (try go_wp2_with fail)
    refine hK.out _ _ ?_ (fun hHeld => ?_)
    · exact hHeld.trans HKN.out
    clear hK K
    (try simp only [tkS])
    refine tkL 9 4 (v := ?_) rfl ?_ ?_
    rotate_left
    · (intro w9 hSw; have s0 := hSw.cellp HCC.out.1; have s1 := hSw.cellp HCC.out.2.1; have s2 := hSw.cellp HCC.out.2.2.1; have s3 := hSw.cellp HCC.out.2.2.2.1; have s4 := hSw.cellp HCC.out.2.2.2.2; obtain ⟨q0, q1, q2, q3⟩ := HCN.out w9 hSw; clear hSw; go_simp; (try with_reducible rfl))
    (try simp only [tkS])
    refine wpAnyH_done (by kernel_rfl) ?_ _
    clear hHeld
    go_wp2_with fail
    go_ret
    have := HRZ.out
    rw [hr] at this
    rw [this]
    exact ⟨rfl, HK1.out.trans (HKR.out.drew.trans HKN.out)⟩
end
end Go.Proofs.YtmedgkccicbieaaGreat
namespace Go.Proofs.YtmedgkccicbieaaGreat
open Go.RowKit Go.Maps Go.Shelf
set_option linter.unusedSimpArgs false
set_option linter.unusedVariables false
attribute [local go_sem] Oper.semAt_some

section
variable {w : World} {s p : Nat} {ds : List Dm} {ms : List ByteArray} {tp : Nat → Nat} {rv : Nat → Option Addr × Nat}
set_option maxHeartbeats 4000000 in
set_option maxRecDepth 100000 in
theorem sw_Leaves (h : SW w s p ds ms tp rv) : Calls Tryz.prog 41 #[.pointer (some ⟨s, 0, none⟩)] w fun e w' => e = .returned (.int .i64 (mulK (fun k => leas ds k) ms.length 4)) ∧ Kept w w' := by
  have HCN := hidMk (fun X (kX : Kept w X) => (h.keep kX).counts.2)
  have HC1 := hidMk (fun X (kX : Kept w X) => (h.keep kX).sp.c1)
  have HTM := hidMk (fun X => coord_times (fun k => leas ds k) ms.length (by have := h.m4; omega) (fun k => leas_bound h k) X)
  unfold arr4 at HTM
  dsimp only at HTM
  generalize mulK (fun k => (leas ds k : Int)) (ms.length : Int) 4 = rz at *
  generalize (leas ds 0 : Nat) = n0 at *
  generalize (leas ds 1 : Nat) = n1 at *
  generalize (leas ds 2 : Nat) = n2 at *
  generalize (leas ds 3 : Nat) = n3 at *
  clear h
  go_enter Tryz.func41, Tryz.ntmps41
  go_upto_region 3 with fail
  refine wp_region_held_drew (S := (fun w' => Kept w w')) (by kernel_rfl) ?_ (fun hHeld => ?_)
  · exact (Kept.refl w).drew
  refine tkL 0 5 (v := ?_) rfl ?_ ?_
  rotate_left
  · (intro w9 hSw; obtain ⟨q0, q1, q2, q3⟩ := HCN.out w9 hSw; have q4 := HC1.out w9 hSw; clear hSw; go_simp; (try with_reducible rfl))
  (try simp only [tkS])
  refine tkL 1 6 (v := ?_) rfl ?_ ?_
  rotate_left
  · (intro w9 hSw; obtain ⟨q0, q1, q2, q3⟩ := HCN.out w9 hSw; have q4 := HC1.out w9 hSw; clear hSw; go_simp; (try with_reducible rfl))
  (try simp only [tkS])
  refine tkL 2 7 (v := ?_) rfl ?_ ?_
  rotate_left
  · (intro w9 hSw; obtain ⟨q0, q1, q2, q3⟩ := HCN.out w9 hSw; have q4 := HC1.out w9 hSw; clear hSw; go_simp; (try with_reducible rfl))
  (try simp only [tkS])
  refine tkL 3 8 (v := ?_) rfl ?_ ?_
  rotate_left
  · (intro w9 hSw; obtain ⟨q0, q1, q2, q3⟩ := HCN.out w9 hSw; have q4 := HC1.out w9 hSw; clear hSw; go_simp; (try with_reducible rfl))
  (try simp only [tkS])
  refine tkL 4 9 (v := ?_) rfl ?_ ?_
  rotate_left
  · (intro w9 hSw; obtain ⟨q0, q1, q2, q3⟩ := HCN.out w9 hSw; have q4 := HC1.out w9 hSw; clear hSw; go_simp; (try with_reducible rfl))
  (try simp only [tkS])
  refine tkL 5 10 (v := ?_) rfl ?_ ?_
  rotate_left
  · (intro w9 hSw; obtain ⟨q0, q1, q2, q3⟩ := HCN.out w9 hSw; have q4 := HC1.out w9 hSw; clear hSw; go_simp; (try with_reducible rfl))
  (try simp only [tkS])
  refine tkL 6 11 (v := ?_) rfl ?_ ?_
  rotate_left
  · (intro w9 hSw; obtain ⟨q0, q1, q2, q3⟩ := HCN.out w9 hSw; have q4 := HC1.out w9 hSw; clear hSw; go_simp; (try with_reducible rfl))
  (try simp only [tkS])
  refine tkL 7 12 (v := ?_) rfl ?_ ?_
  rotate_left
  · (intro w9 hSw; obtain ⟨q0, q1, q2, q3⟩ := HCN.out w9 hSw; have q4 := HC1.out w9 hSw; clear hSw; go_simp; (try with_reducible rfl))
  (try simp only [tkS])
  refine wpAnyH_ready (rs := [8]) (by kernel_rfl) (by simp) ?_
  refine AllReadyH.cons (o := ⟨some 13, _, _, _, _, _⟩) rfl (fun K hK => ?_) AllReadyH.nil
  go_simp
  refine (HTM.out _).mono ?_
  rintro e wN ⟨rfl, kN⟩
  have HKN := hidMk kN
  clear kN
  (try go_wp2_with fail)
  refine hK.out _ _ ?_ (fun hHeld => ?_)
  · exact hHeld.trans HKN.out
  clear hK K
  (try simp only [tkS])
  refine tkL 9 2 (v := ?_) rfl ?_ ?_
  rotate_left
  · (intro w9 hSw; obtain ⟨q0, q1, q2, q3⟩ := HCN.out w9 hSw; have q4 := HC1.out w9 hSw; clear hSw; go_simp; (try with_reducible rfl))
  (try simp only [tkS])
  refine wpAnyH_done (by kernel_rfl) ?_ _
  clear hHeld
  go_wp2_with fail
  go_ret
  exact ⟨rfl, (Kept.refl w).drew.trans HKN.out⟩
end
end Go.Proofs.YtmedgkccicbieaaGreat
namespace Go.Proofs.YtmedgkccicbieaaGreat
open Go.RowKit Go.Maps Go.Shelf
set_option linter.unusedSimpArgs false
set_option linter.unusedVariables false
attribute [local go_sem] Oper.semAt_some

def inC (ms : List ByteArray) (ds : List Dm) (cm : Int) (at_ : Nat → Int) (em : Int) (et : Nat → Int) : Prop := rightB ms ds cm at_ = true ∧ rightB ms ds em et = true ∧ cm = em ∧ ∀ j, j < ds.length → et j ∈ abvA (dmL ds j) (at_ j)
section
variable {w : World} {s p : Nat} {ds : List Dm} {ms : List ByteArray} {tp : Nat → Nat} {rv : Nat → Option Addr × Nat}
set_option maxHeartbeats 8000000 in
set_option maxRecDepth 100000 in
theorem sw_Within (h : SW w s p ds ms tp rv) (cm : Int) (at_ : Nat → Int) (em : Int) (et : Nat → Int) : Calls Tryz.prog 60 #[.pointer (some ⟨s, 0, none⟩), cellV cm at_, cellV em et] w fun e w' => ∃ r, e = .returned (.bool r) ∧ (r = true ↔ inC ms ds cm at_ em et) ∧ Kept w w' := by
  obtain ⟨cb, hcb⟩ : ∃ x, x = w.heap.size := ⟨_, rfl⟩
  obtain ⟨W0, hW0⟩ : ∃ X, X = w.alloc (.cells #[.int .i64 cm, .int .i64 (at_ 0), .int .i64 (at_ 1), .int .i64 (at_ 2), .int .i64 (at_ 3)] 29) := ⟨_, rfl⟩
  obtain ⟨W1, hW1⟩ : ∃ X, X = W0.alloc (.cells #[.int .i64 em, .int .i64 (et 0), .int .i64 (et 1), .int .i64 (et 2), .int .i64 (et 3)] 29) := ⟨_, rfl⟩
  have hsz : W0.heap.size = cb + 1 := by rw [hW0, hcb]; simp
  have k0 : Kept w W0 := by rw [hW0]; exact (Kept.refl w).alloc _
  have k01 : Kept W0 W1 := by rw [hW1]; exact (Kept.refl W0).alloc _
  have k1 : Kept w W1 := k0.trans k01
  have HCC := hidMk (show W1.cell? ⟨cb, 0, none⟩ = some (.int .i64 cm) ∧ W1.cell? ⟨cb, 1, none⟩ = some (.int .i64 (at_ 0)) ∧ W1.cell? ⟨cb, 2, none⟩ = some (.int .i64 (at_ 1)) ∧ W1.cell? ⟨cb, 3, none⟩ = some (.int .i64 (at_ 2)) ∧ W1.cell? ⟨cb, 4, none⟩ = some (.int .i64 (at_ 3)) from by
    refine ⟨k01.cellp ?_, k01.cellp ?_, k01.cellp ?_, k01.cellp ?_, k01.cellp ?_⟩ <;> rw [hW0]
    · exact new_cell _ _ _ _ 0 _ hcb rfl
    · exact new_cell _ _ _ _ 1 _ hcb rfl
    · exact new_cell _ _ _ _ 2 _ hcb rfl
    · exact new_cell _ _ _ _ 3 _ hcb rfl
    · exact new_cell _ _ _ _ 4 _ hcb rfl)
  have HCE := hidMk (show W1.cell? ⟨cb + 1, 0, none⟩ = some (.int .i64 em) ∧ W1.cell? ⟨cb + 1, 1, none⟩ = some (.int .i64 (et 0)) ∧ W1.cell? ⟨cb + 1, 2, none⟩ = some (.int .i64 (et 1)) ∧ W1.cell? ⟨cb + 1, 3, none⟩ = some (.int .i64 (et 2)) ∧ W1.cell? ⟨cb + 1, 4, none⟩ = some (.int .i64 (et 3)) from by
    rw [hW1]; exact ⟨new_cell _ _ _ _ 0 _ hsz.symm rfl, new_cell _ _ _ _ 1 _ hsz.symm rfl, new_cell _ _ _ _ 2 _ hsz.symm rfl, new_cell _ _ _ _ 3 _ hsz.symm rfl, new_cell _ _ _ _ 4 _ hsz.symm rfl⟩)
  have HCK := hidMk (show ∀ k, k < 4 → W1.cell? ⟨cb, 1 + k, none⟩ = some (.int .i64 (at_ k)) from fun k hk => k01.cellp (by rw [hW0, hcb]; exact box_at w _ cm at_ k hk))
  have HEK := hidMk (show ∀ k, k < 4 → W1.cell? ⟨cb + 1, 1 + k, none⟩ = some (.int .i64 (et k)) from fun k hk => by rw [hW1, ← hsz]; exact box_at W0 _ em et k hk)
  have HDM := hidMk (fun X (kX : Kept W1 X) => sw_Dims (h.keep (k1.trans kX)))
  have HRC := hidMk (fun X (kX : Kept W1 X) => sw_Right (h.keep (k1.trans kX)) cm at_)
  have HRE := hidMk (fun X (kX : Kept W1 X) => sw_Right (h.keep (k1.trans kX)) em et)
  have HMN := hidMk (fun X (kX : Kept W1 X) => sw_Many (h.keep (k1.trans kX)))
  have HTR := hidMk (fun k (hk : k < ds.length) X (kX : Kept W1 X) => sw_Tree (h.keep (k1.trans kX)) hk)
  have HWI := hidMk (fun k (hk : k < ds.length) X (kX : Kept W1 X) => w_Within ((h.keep (k1.trans kX)).whole hk) (at_ k) (et k))
  have HK1 := hidMk k1
  have H4 := hidMk h.d4
  have HI := hidMk (show inC ms ds cm at_ em et ↔ (rightB ms ds cm at_ = true ∧ rightB ms ds em et = true ∧ cm = em ∧ ∀ j, j < ds.length → et j ∈ abvA (dmL ds j) (at_ j)) from Iff.rfl)
  unfold cellV at *
  clear h k1 k0 k01 hsz
  generalize inC ms ds cm at_ em et = I at *
  go_enter Tryz.func60, Tryz.ntmps60
  go_upto_region 1 with fail
  rw [← hW0, ← hW1, ← hcb]
  clear hW1 hcb hW0 W0
  go_wp2_with fail
  refine (HDM.out _ (Kept.refl _)).mono ?_
  rintro e w3 ⟨rfl, hw3⟩
  rw [hw3]
  clear hw3 w3
  obtain ⟨s0, s1, s2, s3, s4⟩ := HCC.out
  go_wp2_with fail
  clear s0 s1 s2 s3 s4
  refine (HRC.out _ (Kept.refl _)).mono ?_
  rintro e wA ⟨rfl, kA⟩
  have HKA := hidMk kA
  clear kA
  cases hr1 : rightB ms ds cm at_ with
  | false =>
    go_wp2_with fail
    go_ret
    exact ⟨false, rfl, ⟨fun e => Bool.noConfusion e, fun e => by have := (HI.out.1 e).1; rw [hr1] at this; exact this⟩, HK1.out.trans HKA.out⟩
  | true =>
    have s0 := HKA.out.cellp HCE.out.1
    have s1 := HKA.out.cellp HCE.out.2.1
    have s2 := HKA.out.cellp HCE.out.2.2.1
    have s3 := HKA.out.cellp HCE.out.2.2.2.1
    have s4 := HKA.out.cellp HCE.out.2.2.2.2
    go_wp2_with fail
    clear s0 s1 s2 s3 s4
    refine (HRE.out _ HKA.out).mono ?_
    rintro e wB ⟨rfl, kB⟩
    have HKB := hidMk (HKA.out.trans kB)
    clear kB HKA
    cases hr2 : rightB ms ds em et with
    | false =>
      go_wp2_with fail
      go_ret
      exact ⟨false, rfl, ⟨fun e => Bool.noConfusion e, fun e => by have := (HI.out.1 e).2.1; rw [hr2] at this; exact this⟩, HK1.out.trans HKB.out⟩
    | true =>
      have s0 := HKB.out.cellp HCE.out.1
      have s1 := HKB.out.cellp HCC.out.1
      by_cases hm : cm = em
      · subst hm
        go_wp2_with fail
        refine (HMN.out _ HKB.out).mono ?_
        rintro e w3 ⟨rfl, hw3⟩
        rw [hw3]
        clear hw3 w3 s0 s1
        go_wp2_with fail
        go_loopg [30] (ds.length + 1) (fun gg x wr => ∃ j : Nat, j + gg = ds.length + 1 ∧ j ≤ ds.length ∧ x = .int .i64 j ∧ Hid (Kept W1 wr ∧ ∀ i, i < j → et i ∈ abvA (dmL ds i) (at_ i)))
        case atStart => exact ⟨0, by omega, by omega, rfl, hidMk ⟨HKB.out, fun i hi => absurd hi (by omega)⟩⟩
        case round =>
          clear HKB
          obtain ⟨j, hjg, hjd, rfl, HS⟩ := hrel
          have HG := hidMk hjg
          clear hjg
          by_cases hj : j < ds.length
          · have hj' : (j : Int) < (ds.length : Int) := by omega
            have hj4 : (j : Int) < 4 := by have := H4.out; omega
            have hjn : j < 4 := by omega
            have HT2 := hidMk (HTR.out j hj)
            have HA2 := hidMk (HWI.out j hj)
            have HCJ := hidMk (HCK.out j hjn)
            have HEJ := hidMk (HEK.out j hjn)
            have HKD0 := hidMk HS.out.1.drew
            obtain ⟨db, hdb⟩ : ∃ b, b = decide (et j ∈ abvA (dmL ds j) (at_ j)) := ⟨_, rfl⟩
            rw [← hdb] at HA2
            have HDB := hidMk hdb
            clear HTR HWI HCK HEK HDM HRC HRE HMN hdb
            generalize ea : at_ j = aj at HCJ HA2
            generalize ee : et j = ej at HEJ HA2
            have HEA := hidMk ea
            have HEE := hidMk ee
            clear ea ee
            go_upto_region 7 with fail
            refine wp_region_held_drew (S := (fun w' => Kept W1 w')) (by kernel_rfl) ?_ (fun hHeld => ?_)
            · exact HKD0.out
            refine tkL 0 33 (v := ?_) rfl ?_ ?_
            rotate_left
            · (intro w9 hSw; have s1 := hSw.cellp HCJ.out; have q1 := hSw.cellp HEJ.out; clear hSw; go_simp; (try with_reducible rfl))
            (try simp only [tkS])
            refine tkL 1 34 (v := ?_) rfl ?_ ?_
            rotate_left
            · (intro w9 hSw; have s1 := hSw.cellp HCJ.out; have q1 := hSw.cellp HEJ.out; clear hSw; go_simp; (try with_reducible rfl))
            (try simp only [tkS])
            refine tkL 3 36 (v := ?_) rfl ?_ ?_
            rotate_left
            · (intro w9 hSw; have s1 := hSw.cellp HCJ.out; have q1 := hSw.cellp HEJ.out; clear hSw; go_simp; (try with_reducible rfl))
            (try simp only [tkS])
            refine tkL 4 37 (v := ?_) rfl ?_ ?_
            rotate_left
            · (intro w9 hSw; have s1 := hSw.cellp HCJ.out; have q1 := hSw.cellp HEJ.out; clear hSw; go_simp; (try with_reducible rfl))
            (try simp only [tkS])
            refine tkL 5 38 (v := ?_) rfl ?_ ?_
            rotate_left
            · (intro w9 hSw; have s1 := hSw.cellp HCJ.out; have q1 := hSw.cellp HEJ.out; clear hSw; go_simp; (try with_reducible rfl))
            (try simp only [tkS])
            refine tkL 6 39 (v := ?_) rfl ?_ ?_
            rotate_left
            · (intro w9 hSw; have s1 := hSw.cellp HCJ.out; have q1 := hSw.cellp HEJ.out; clear hSw; go_simp; (try with_reducible rfl))
            (try simp only [tkS])
            refine tkL 7 40 (v := ?_) rfl ?_ ?_
            rotate_left
            · (intro w9 hSw; have s1 := hSw.cellp HCJ.out; have q1 := hSw.cellp HEJ.out; clear hSw; go_simp; (try with_reducible rfl))
            (try simp only [tkS])
            refine tkL 8 41 (v := ?_) rfl ?_ ?_
            rotate_left
            · (intro w9 hSw; have s1 := hSw.cellp HCJ.out; have q1 := hSw.cellp HEJ.out; clear hSw; go_simp; (try with_reducible rfl))
            (try simp only [tkS])
            refine tkL 9 42 (v := ?_) rfl ?_ ?_
            rotate_left
            · (intro w9 hSw; have s1 := hSw.cellp HCJ.out; have q1 := hSw.cellp HEJ.out; clear hSw; go_simp; (try with_reducible rfl))
            (try simp only [tkS])
            refine tkL 10 43 (v := ?_) rfl ?_ ?_
            rotate_left
            · (intro w9 hSw; have s1 := hSw.cellp HCJ.out; have q1 := hSw.cellp HEJ.out; clear hSw; go_simp; (try with_reducible rfl))
            (try simp only [tkS])
            refine wpAnyH_ready (rs := [2]) (by kernel_rfl) (by simp) ?_
            refine AllReadyH.cons (o := ⟨some 35, _, _, _, _, _⟩) rfl (fun K hK => ?_) AllReadyH.nil
            go_simp
            refine (HT2.out _ HKD0.out).mono ?_
            rintro e w3 ⟨rfl, hw3⟩
            rw [hw3]
            clear hw3 w3
            (try go_wp2_with fail)
            refine hK.out _ _ ?_ (fun hHeld => ?_)
            · (first | exact HKD0.out | assumption)
            clear hK K
            (try simp only [tkS])
            refine wpAnyH_ready (rs := [11]) (by kernel_rfl) (by simp) ?_
            refine AllReadyH.cons (o := ⟨some 44, _, _, _, _, _⟩) rfl (fun K hK => ?_) AllReadyH.nil
            go_simp
            refine (HA2.out _ HKD0.out).mono ?_
            rintro e w3 ⟨rfl, hw3⟩
            rw [hw3]
            clear hw3 w3
            (try go_wp2_with fail)
            refine hK.out _ _ ?_ (fun hHeld => ?_)
            · (first | exact HKD0.out | assumption)
            clear hK K
            (try simp only [tkS])
            refine tkL 12 45 (v := ?_) rfl ?_ ?_
            rotate_left
            · (intro w9 hSw; have s1 := hSw.cellp HCJ.out; have q1 := hSw.cellp HEJ.out; clear hSw; go_simp; (try with_reducible rfl))
            (try simp only [tkS])
            refine wpAnyH_done (by kernel_rfl) ?_ _
            clear hHeld
            cases db with
            | false =>
              go_wp2_with fail
              go_ret
              exact ⟨false, rfl, ⟨fun e => Bool.noConfusion e, fun e => absurd ((HI.out.1 e).2.2.2 j hj) (of_decide_eq_false HDB.out.symm)⟩, HK1.out.trans HKD0.out⟩
            | true =>
              go_wp2_with fail
              go_roundg (gk - 1)
              case measure => have := HG.out; omega
              case rel => exact ⟨j + 1, by have := HG.out; omega, by omega, by go_num, hidMk ⟨HKD0.out, fun i hi => by
                by_cases e : i = j
                · subst e; exact of_decide_eq_true HDB.out.symm
                · exact HS.out.2 i (by omega)⟩⟩
          · have hje : j = ds.length := by omega
            subst hje
            go_wp2_with fail
            go_ret
            exact ⟨true, rfl, ⟨fun _ => HI.out.2 ⟨hr1, hr2, by trivial, HS.out.2⟩, fun _ => rfl⟩, HK1.out.trans HS.out.1⟩
      · go_wp2_with fail
        go_ret
        exact ⟨false, rfl, ⟨fun e => Bool.noConfusion e, fun e => absurd (HI.out.1 e).2.2.1 hm⟩, HK1.out.trans HKB.out⟩
end
end Go.Proofs.YtmedgkccicbieaaGreat
