/- The definition's space: Leaves, Cells, Index, Code. -/
import Derived.Test.YtmmdfpafkmhgcaaGreatRefCo2
namespace Go.Proofs.YtmmdfpafkmhgcaaGreat
open Go.RowKit Go.Maps
set_option linter.unusedSimpArgs false
set_option linter.unusedVariables false

/-- The definition's space in memory; pp: its tables are made, and lie in these blocks. -/
structure RQ (W0 : World) (r q : Nat) (ds : List Dm) (y4 y5 : Value) (pp : Option (Nat × Nat)) (X : World) : Prop where
  kp : Kept W0 X
  c0 : X.cell? ⟨r, 0, none⟩ = some (.pointer (some ⟨q, 0, none⟩))
  c4 : X.cell? ⟨r, 4, none⟩ = some y4
  c5 : X.cell? ⟨r, 5, none⟩ = some y5
  fz : ∀ k, X.frozen? ⟨r, k, none⟩ = false
  tn : pp = none → X.cell? ⟨r, 1, none⟩ = some (.slice none 0 0) ∧ X.cell? ⟨r, 2, none⟩ = some (.slice none 0 0) ∧ X.cell? ⟨r, 3, none⟩ = some (.slice none 0 0)
  tb : ∀ B H, pp = some (B, H) → r < B ∧ ∃ v1 v2 v3 x1 x2 x3 l1 l2 l3 t1 t2 t3, X.cell? ⟨r, 1, none⟩ = some v1 ∧ X.cell? ⟨r, 2, none⟩ = some v2 ∧ X.cell? ⟨r, 3, none⟩ = some v3 ∧ Sol B H (fun y => RTab y B ds ds.length ds.length ds.length v1 v2 v3 x1 x2 x3 l1 l2 l3 t1 t2 t3) X
structure RE (W0 : World) (r q : Nat) (ds : List Dm) (ms : List ByteArray) (rt : Nat → Nat) : Prop where
  rr : r = W0.heap.size
  rd : RDm W0 q ds rt ms
  ct : Ct ds ms
section
variable {W0 X Y : World} {r q : Nat} {ds : List Dm} {ms : List ByteArray} {rt : Nat → Nat} {y4 y5 : Value} {pp : Option (Nat × Nat)} {B H : Nat}
theorem RQ.lt (h : RQ W0 r q ds y4 y5 pp X) : r < X.heap.size := cell_lt h.c0
theorem RQ.hole (h : RQ W0 r q ds y4 y5 pp X) (e : pp = some (B, H)) : r < B ∧ H ≤ X.heap.size := by
  obtain ⟨h1, v1, v2, v3, x1, x2, x3, l1, l2, l3, t1, t2, t3, a1, a2, a3, hT⟩ := h.tb B H e
  exact ⟨h1, hT.hi_le⟩
theorem RQ.chg {S : Nat → Prop} (h : RQ W0 r q ds y4 y5 pp X) (k : Chg S X Y) (hS : ∀ j, S j → W0.heap.size ≤ j ∧ j ≠ r) (hB : ∀ B H, pp = some (B, H) → ∀ j, S j → ¬ (B ≤ j ∧ j < H)) : RQ W0 r q ds y4 y5 pp Y := by
  have nr : ¬ S r := fun e => (hS r e).2 rfl
  refine ⟨Chg.kept h.kp k (fun j e => (hS j e).1), k.cellp h.c0 nr, k.cellp h.c4 nr, k.cellp h.c5 nr, fun j => (k.frozen (p := ⟨r, j, none⟩) h.lt nr).trans (h.fz j), fun e => ⟨k.cellp (h.tn e).1 nr, k.cellp (h.tn e).2.1 nr, k.cellp (h.tn e).2.2 nr⟩, fun B H e => ?_⟩
  obtain ⟨h1, v1, v2, v3, x1, x2, x3, l1, l2, l3, t1, t2, t3, a1, a2, a3, hT⟩ := h.tb B H e
  exact ⟨h1, v1, v2, v3, x1, x2, x3, l1, l2, l3, t1, t2, t3, k.cellp a1 nr, k.cellp a2 nr, k.cellp a3 nr, hT.chg k (fun j h2 h3 e' => hB B H e j e' ⟨h2, h3⟩)⟩
theorem RQ.keep (h : RQ W0 r q ds y4 y5 pp X) (k : Kept X Y) : RQ W0 r q ds y4 y5 pp Y := h.chg (S := fun _ => False) (Chg.of_kept k) (fun _ e => e.elim) (fun _ _ _ _ e => e.elim)
theorem RTab.sol {n1 n2 n3 : Nat} {v1 v2 v3 : Value} {x1 x2 x3 : Nat → Value} {l1 l2 l3 u1 u2 u3 : Nat → Nat} (h : RTab X B ds n1 n2 n3 v1 v2 v3 x1 x2 x3 l1 l2 l3 u1 u2 u3) : Sol B X.heap.size (fun y => RTab y B ds n1 n2 n3 v1 v2 v3 x1 x2 x3 l1 l2 l3 u1 u2 u3) X :=
  ⟨Nat.le_refl _, fun S y k hS => ⟨h.r1.sol.all S y k hS, h.r2.sol.all S y k hS, h.r3.sol.all S y k hS, h.a12, h.a13, h.a21, h.a23, h.a31, h.a32⟩⟩
theorem rq_of_ps (h : PS W0 X r q ds ds.length ds.length ds.length y4 y5 Y) (hX : r < X.heap.size) : RQ W0 r q ds y4 y5 (some (X.heap.size, Y.heap.size)) Y := by
  obtain ⟨v1, v2, v3, x1, x2, x3, l1, l2, l3, t1, t2, t3, a1, a2, a3, hT⟩ := h.tb
  exact ⟨h.kp, h.c0, h.c4, h.c5, h.fz, fun e => (by cases e), fun B H e => by
    cases e
    exact ⟨hX, v1, v2, v3, x1, x2, x3, l1, l2, l3, t1, t2, t3, a1, a2, a3, hT.sol⟩⟩
theorem ps_of_rq (h : RQ W0 r q ds y4 y5 none X) : PS W0 X r q ds 0 0 0 y4 y5 X := by
  obtain ⟨a1, a2, a3⟩ := h.tn rfl
  exact ⟨h.kp, Chg.refl _ _, h.c0, h.c4, h.c5, h.fz, ⟨_, _, _, fun _ => undef, fun _ => undef, fun _ => undef, fun _ => 0, fun _ => 0, fun _ => 0, fun _ => 0, fun _ => 0, fun _ => 0, a1, a2, a3, rw_nil _ _ _ _ _ _ _, rw_nil _ _ _ _ _ _ _, rw_nil _ _ _ _ _ _ _, fun g hg => (by simp [Value.ownBlock] at hg), fun g hg => (by simp [Value.ownBlock] at hg), fun g hg => (by simp [Value.ownBlock] at hg), fun g hg => (by simp [Value.ownBlock] at hg), fun g hg => (by simp [Value.ownBlock] at hg), fun g hg => (by simp [Value.ownBlock] at hg)⟩⟩
/-- The tables are where they were, or they were made, from block N on. -/
def Nx (pp pp' : Option (Nat × Nat)) (N : Nat) : Prop := pp' = pp ∨ (pp = none ∧ ∀ B H, pp' = some (B, H) → N ≤ B)
theorem Nx.get {pp pp' : Option (Nat × Nat)} {N B H : Nat} (h : Nx pp pp' N) (e : pp' = some (B, H)) : pp = some (B, H) ∨ N ≤ B := by
  rcases h with h | h
  · exact .inl (by rw [← h, e])
  · exact .inr (h.2 B H e)
theorem Nx.refl (pp : Option (Nat × Nat)) (N : Nat) : Nx pp pp N := .inl rfl
theorem Nx.trans {p1 p2 p3 : Option (Nat × Nat)} {N M : Nat} (h : Nx p1 p2 N) (k : Nx p2 p3 M) (hN : N ≤ M) : Nx p1 p3 N := by
  rcases k with k | k
  · rw [k]; exact h
  · rcases h with h | h
    · exact .inr ⟨by rw [← h]; exact k.1, fun B H e => Nat.le_trans hN (k.2 B H e)⟩
    · exact .inr ⟨h.1, fun B H e => Nat.le_trans hN (k.2 B H e)⟩
theorem Nx.le {p1 p2 : Option (Nat × Nat)} {N M : Nat} (h : Nx p1 p2 M) (hN : N ≤ M) : Nx p1 p2 N := by
  rcases h with h | h
  · exact .inl h
  · exact .inr ⟨h.1, fun B H e => Nat.le_trans hN (h.2 B H e)⟩
theorem Nx.same {p1 : Option (Nat × Nat)} {B H N : Nat} (h : Nx (some (B, H)) p1 N) : p1 = some (B, H) := by
  rcases h with h | h
  · exact h
  · cases h.1
/-- What a call answers, and the space behind it. -/
def RR (W0 : World) (r q : Nat) (ds : List Dm) (y4 y5 : Value) (pp : Option (Nat × Nat)) (X w' : World) : Prop := (∃ pp', RQ W0 r q ds y4 y5 pp' w' ∧ Nx pp pp' X.heap.size) ∧ Chg (fun j => j = r) X w'
def RP (W0 : World) (r q : Nat) (ds : List Dm) (y4 y5 : Value) (pp : Option (Nat × Nat)) (X : World) (v : Value) (e : Ending) (w' : World) : Prop := e = .returned v ∧ RR W0 r q ds y4 y5 pp X w'
theorem RQ.rr (h : RQ W0 r q ds y4 y5 pp X) (k : Kept X Y) : RR W0 r q ds y4 y5 pp X Y := ⟨⟨pp, h.keep k, Nx.refl _ _⟩, Chg.of_kept k⟩
/-- What of the catalogue is read. -/
theorem RE.get (h : RE W0 r q ds ms rt) : ∃ tb tc ma mc, ∀ Y, Kept W0 Y → Y.cell? ⟨q, 4, none⟩ = some (.slice (some ⟨tb, 0, none⟩) ds.length tc) ∧ Y.cell? ⟨q, 1, none⟩ = some (.slice ma ms.length mc) ∧ ∀ k, k < ds.length → Y.cell? ⟨tb, k, none⟩ = some (.pointer (some ⟨rt k, 0, none⟩)) ∧ ∃ b c, Y.cell? ⟨rt k, 0, none⟩ = some (.slice (some ⟨b, 0, none⟩) (dmL ds k).length c) := by
  obtain ⟨ta, tc, hT0, hT1⟩ := h.rd.c4
  obtain ⟨tb, htb, hTc⟩ := hT1 (by have := h.ct.d1; omega)
  subst htb
  obtain ⟨ma, mc, hM, _⟩ := h.rd.c1
  refine ⟨tb, tc, ma, mc, fun Y k => ⟨k.cellp hT0, k.cellp hM, fun i hi => ⟨k.cellp (hTc i hi), ?_⟩⟩⟩
  obtain ⟨b, c, h1, _⟩ := (h.rd.tr i hi).ex
  exact ⟨b, c, k.cellp h1⟩
/-- What of the tables is read. -/
theorem RQ.leaf (h : RQ W0 r q ds y4 y5 (some (B, H)) X) (hd : 1 ≤ ds.length) : ∃ g c, X.cell? ⟨r, 1, none⟩ = some (.slice (some ⟨g, 0, none⟩) ds.length c) ∧ ∀ k, k < ds.length → ∃ a c', X.cell? ⟨g, k, none⟩ = some (.slice a (lvsN (dmL ds k)).length c') ∧ Sl .i64 X a (lvsN (dmL ds k)).length (ints (lvsN (dmL ds k))) := by
  obtain ⟨_, v1, v2, v3, x1, x2, x3, l1, l2, l3, t1, t2, t3, a1, a2, a3, hT0⟩ := h.tb B H rfl
  have hT := hT0.here
  obtain ⟨a, c, e⟩ := hT.r1.form
  obtain ⟨g, e2, _, _, _⟩ := hT.r1.cell e (show 0 < ds.length by omega)
  subst e2
  rw [e] at a1
  refine ⟨g, c, a1, fun k hk => ?_⟩
  obtain ⟨g', e3, _, _, hcell⟩ := hT.r1.cell e hk
  cases e3
  have hR := RwI.own' (hT.r1.el k hk).1.here
  obtain ⟨a5, c5, e5, hs⟩ := hR.sl (by
    obtain ⟨_, ⟨_, hz⟩ | ⟨_, cap, _, _, _, _, h1, h2, _⟩⟩ := hR
    · rw [hz]; exact Nat.zero_le _
    · omega)
  rw [ints_len] at e5 hs
  exact ⟨a5, c5, by rw [hcell, e5], hs⟩
theorem RQ.rank (h : RQ W0 r q ds y4 y5 (some (B, H)) X) (ho : ∀ k, k < ds.length → 1 ≤ (dmL ds k).length) (hd : 1 ≤ ds.length) : ∃ g c, X.cell? ⟨r, 2, none⟩ = some (.slice (some ⟨g, 0, none⟩) ds.length c) ∧ ∀ k, k < ds.length → ∃ g' c', X.cell? ⟨g, k, none⟩ = some (.slice (some ⟨g', 0, none⟩) (dmL ds k).length c') ∧ ∀ i : Nat, i < (dmL ds k).length → X.cell? ⟨g', i, none⟩ = some (.int .i64 (rankI (dmL ds k) i)) := by
  obtain ⟨_, v1, v2, v3, x1, x2, x3, l1, l2, l3, t1, t2, t3, a1, a2, a3, hT0⟩ := h.tb B H rfl
  have hT := hT0.here
  obtain ⟨a, c, e⟩ := hT.r2.form
  obtain ⟨g, e2, _, _, _⟩ := hT.r2.cell e (show 0 < ds.length by omega)
  subst e2
  rw [e] at a2
  refine ⟨g, c, a2, fun k hk => ?_⟩
  obtain ⟨g', e3, _, _, hcell⟩ := hT.r2.cell e hk
  cases e3
  have hR : Rw X (l2 k) 3 (x2 k) _ _ _ _ _ := (hT.r2.el k hk).1.here
  obtain ⟨a5, c5, e5⟩ := hR.form
  obtain ⟨g5, e6, _, _, _⟩ := hR.cell e5 (show 0 < (rkL (dmL ds k)).length by rw [rkL_len]; have := ho k hk; omega)
  subst e6
  refine ⟨g5, c5, by rw [hcell, e5, rkL_len], fun i hi => ?_⟩
  obtain ⟨g6, e7, _, _, h6⟩ := hR.cell e5 (show i < (rkL (dmL ds k)).length by rw [rkL_len]; exact hi)
  cases e7
  rw [h6, rkL_get hi]
theorem RQ.inn (h : RQ W0 r q ds y4 y5 (some (B, H)) X) (ho : ∀ k, k < ds.length → 1 ≤ (dmL ds k).length) (hd : 1 ≤ ds.length) : ∃ g c, X.cell? ⟨r, 3, none⟩ = some (.slice (some ⟨g, 0, none⟩) ds.length c) ∧ ∀ k, k < ds.length → ∃ g' c', X.cell? ⟨g, k, none⟩ = some (.slice (some ⟨g', 0, none⟩) (dmL ds k).length c') ∧ ∀ i : Nat, i < (dmL ds k).length → ∃ g2 c2, X.cell? ⟨g', i, none⟩ = some (.slice (some ⟨g2, 0, none⟩) (dmL ds k).length c2) ∧ ∀ j : Nat, j < (dmL ds k).length → X.cell? ⟨g2, j, none⟩ = some (.bool (decide ((j : Int) ∈ abvA (dmL ds k) (i : Int)))) := by
  obtain ⟨_, v1, v2, v3, x1, x2, x3, l1, l2, l3, t1, t2, t3, a1, a2, a3, hT0⟩ := h.tb B H rfl
  have hT := hT0.here
  obtain ⟨a, c, e⟩ := hT.r3.form
  obtain ⟨g, e2, _, _, _⟩ := hT.r3.cell e (show 0 < ds.length by omega)
  subst e2
  rw [e] at a3
  refine ⟨g, c, a3, fun k hk => ?_⟩
  obtain ⟨g', e3, _, _, hcell⟩ := hT.r3.cell e hk
  cases e3
  obtain ⟨val, lo, hi, hR⟩ := (hT.r3.el k hk).1.here
  have hL := ho k hk
  obtain ⟨a5, c5, e5⟩ := hR.form
  obtain ⟨g5, e6, _, _, _⟩ := hR.cell e5 (show 0 < (dmL ds k).length by omega)
  subst e6
  refine ⟨g5, c5, by rw [hcell, e5], fun i hi' => ?_⟩
  obtain ⟨g6, e7, _, _, h6⟩ := hR.cell e5 hi'
  cases e7
  have hB : Rw X (lo i) 4 (val i) _ _ _ _ _ := (hR.el i hi').1.here
  obtain ⟨a8, c8, e8⟩ := hB.form
  obtain ⟨g8, e9, _, _, _⟩ := hB.cell e8 (show 0 < (inR (dmL ds k) i).length by rw [inR_len]; omega)
  subst e9
  refine ⟨g8, c8, by rw [h6, e8, inR_len], fun j hj => ?_⟩
  obtain ⟨g9, e10, _, _, h9⟩ := hB.cell e8 (show j < (inR (dmL ds k) i).length by rw [inR_len]; exact hj)
  cases e10
  rw [h9, inR_get hj]
theorem mulK_step {f : Nat → Int} {m : Int} (h0 : 0 ≤ m ∧ m ≤ 1000) (hf : ∀ k, 0 ≤ f k ∧ f k ≤ 1000) {k : Nat} (hk : k < 4) : wrap64 (mulK f m k * f k) = mulK f m (k + 1) := by
  obtain ⟨b0, b1, b2, b3, b4⟩ := mulK_bound h0 hf
  have : k = 0 ∨ k = 1 ∨ k = 2 ∨ k = 3 := by omega
  rcases this with rfl | rfl | rfl | rfl
  · exact wrap_c (by show -4611686018427387904 ≤ mulK f m 1; omega) (by show mulK f m 1 ≤ _; omega)
  · exact wrap_c (by show -4611686018427387904 ≤ mulK f m 2; omega) (by show mulK f m 2 ≤ _; omega)
  · exact wrap_c (by show -4611686018427387904 ≤ mulK f m 3; omega) (by show mulK f m 3 ≤ _; omega)
  · exact wrap_c (by show -4611686018427387904 ≤ mulK f m 4; omega) (by show mulK f m 4 ≤ _; omega)
theorem numK_step {f a : Nat → Int} {m : Int} (h0 : 0 ≤ m ∧ m ≤ 1000) (hf : ∀ k, 0 ≤ f k ∧ f k ≤ 1000) (ha : ∀ k, 0 ≤ a k ∧ a k ≤ 1000) {k : Nat} (hk : k < 4) : wrap64 (numK f a m k * f k) = numK f a m k * f k ∧ wrap64 (numK f a m k * f k + a k) = numK f a m (k + 1) := by
  obtain ⟨b1, b2, b3, b4⟩ := numK_bound h0 hf ha
  have b0 : 0 ≤ numK f a m k ∧ numK f a m k ≤ 1001001001000 := by
    have : k = 0 ∨ k = 1 ∨ k = 2 ∨ k = 3 := by omega
    rcases this with rfl | rfl | rfl | rfl
    · show 0 ≤ m ∧ m ≤ _; omega
    · omega
    · omega
    · omega
  have h1 := hf k
  have h2 := ha k
  have h3 := Int.mul_nonneg b0.1 h1.1
  have h4 : numK f a m k * f k ≤ 1001001001000 * 1000 := Int.mul_le_mul b0.2 h1.2 h1.1 (by omega)
  exact ⟨wrap_c (by omega) (by omega), wrap_c (by omega) (by omega)⟩
theorem mulK_out {f : Nat → Int} {m : Int} {d : Nat} (hd : d ≤ 4) (hf : ∀ k, d ≤ k → f k = 1) : mulK f m d = mulK f m 4 := by
  have st : ∀ j, mulK f m (d + j) = mulK f m d := fun j => by
    induction j with
    | zero => rfl
    | succ j ih => show mulK f m (d + j) * f (d + j) = _; rw [ih, hf _ (by omega), Int.mul_one]
  have := st (4 - d)
  rw [show d + (4 - d) = 4 by omega] at this
  exact this.symm
theorem numK_out {f a : Nat → Int} {m : Int} {d : Nat} (hd : d ≤ 4) (hf : ∀ k, d ≤ k → f k = 1) (ha : ∀ k, d ≤ k → k < 4 → a k = 0) : numK f a m d = numK f a m 4 := by
  have st : ∀ j, d + j ≤ 4 → numK f a m (d + j) = numK f a m d := fun j => by
    induction j with
    | zero => intro _; rfl
    | succ j ih => intro h; show numK f a m (d + j) * f (d + j) + a (d + j) = _; rw [ih (by omega), hf _ (by omega), ha _ (by omega) (by omega), Int.mul_one]; omega
  have := st (4 - d) (by omega)
  rw [show d + (4 - d) = 4 by omega] at this
  exact this.symm
theorem leasB (h : Ct ds ms) (k : Nat) : 0 ≤ (leas ds k : Int) ∧ (leas ds k : Int) ≤ 1000 := by
  unfold leas; split
  · next e => have h1 := lvs_len (h.tr k e); have h2 := h.le k e; omega
  · omega
theorem manyB (h : Ct ds ms) (k : Nat) : 0 ≤ (many ds k : Int) ∧ (many ds k : Int) ≤ 1000 := by
  unfold many; split
  · next e => have h2 := h.le k e; omega
  · omega
set_option maxHeartbeats 4000000 in
set_option maxRecDepth 100000 in
theorem r7_prepare (hE : RE W0 r q ds ms rt) (h : RQ W0 r q ds y4 y5 pp X) : Calls Tryz.prog 42 #[.pointer (some ⟨r, 0, none⟩)] X fun e w' => e = .returned (.tuple #[]) ∧ (∃ B H, RQ W0 r q ds y4 y5 (some (B, H)) w' ∧ Nx pp (some (B, H)) X.heap.size) ∧ Chg (fun j => j = r) X w' := by
  cases pp with
  | none =>
    refine (r7_prep hE.rr h.lt hE.rd hE.ct (ps_of_rq h)).mono ?_
    rintro e w' ⟨he, hp⟩
    exact ⟨he, ⟨_, _, rq_of_ps hp h.lt, .inr ⟨rfl, fun B H e => by cases e; exact Nat.le_refl _⟩⟩, hp.ch⟩
  | some bh =>
    obtain ⟨B, H⟩ := bh
    obtain ⟨tb, tc, ma, mc, hg⟩ := hE.get
    obtain ⟨q4, _, _⟩ := hg X h.kp
    obtain ⟨g, c, a1, _⟩ := h.leaf hE.ct.d1
    have c0 := h.c0
    have HQ := hidMk h
    have hd4 := hE.ct.d4
    generalize hD : ds.length = D at *
    clear hg hE h
    go_enter Tryz.func42, Tryz.ntmps42
    go_wp2_with fail
    go_quiet (fail)
    go_wp2_with fail
    refine bodyPost_ret (v := .tuple #[]) (results_none rfl _ _ _) rfl ⟨rfl, ⟨B, H, HQ.out.keep ((Kept.refl X).drewN nq), Nx.refl _ _⟩, Chg.of_kept ((Kept.refl X).drewN nq)⟩
set_option maxHeartbeats 4000000 in
set_option maxRecDepth 100000 in
theorem r7_Leaves (hE : RE W0 r q ds ms rt) (h : RQ W0 r q ds y4 y5 pp X) : Calls Tryz.prog 15 #[.pointer (some ⟨r, 0, none⟩)] X fun e w' => e = .returned (.int .i64 (mulK (fun k => leas ds k) ms.length 4)) ∧ (∃ B H, RQ W0 r q ds y4 y5 (some (B, H)) w' ∧ Nx pp (some (B, H)) X.heap.size) ∧ Chg (fun j => j = r) X w' := by
  have HP := hidMk (r7_prepare hE h)
  obtain ⟨tb, tc, ma, mc, hg⟩ := hE.get
  have HGT := hidMk hg
  have HE := hidMk hE
  have hm4 := hE.ct.m4
  have hd4 := hE.ct.d4
  rw [← mulK_out (f := fun k => (leas ds k : Int)) hd4 (fun k hk => by show (leas ds k : Int) = 1; rw [leas_out (by omega)]; rfl)]
  obtain ⟨D, hD⟩ : ∃ D, D = ds.length := ⟨_, rfl⟩
  obtain ⟨mk, hmk⟩ : ∃ mk : Nat → Int, mk = mulK (fun k => (leas ds k : Int)) (ms.length : Int) := ⟨_, rfl⟩
  rw [← hD] at hd4
  rw [← hmk, ← hD]
  have HDD := hidMk hD
  have HMK := hidMk hmk
  clear hg hE h hmk hD
  go_enter Tryz.func15, Tryz.ntmps15
  go_wp2_with fail
  refine HP.out.mono ?_
  rintro e w1 ⟨rfl, ⟨B1, H1, hq, hnx⟩, hch⟩
  have HQ := hidMk hq
  have HNX := hidMk hnx
  clear hnx
  have HC := hidMk hch
  have c0 := hq.c0
  obtain ⟨q4, q1, HTE⟩ := HGT.out w1 hq.kp
  obtain ⟨g, c, a1, hlf⟩ := hq.leaf HE.out.ct.d1
  have HLF := hidMk hlf
  have HST := hidMk (show ∀ k, k < 4 → wrap64 (mulK (fun k => leas ds k) ms.length k * leas ds k) = mulK (fun k => leas ds k) ms.length (k + 1) from fun k hk => mulK_step (by omega) (fun k => leasB HE.out.ct k) hk)
  have HLI := hidMk (show ∀ k, k < ds.length → leas ds k = (lvsN (dmL ds k)).length from fun k hk => leas_in hk)
  clear hq hch hlf HTE HP HGT
  rw [← HDD.out] at q4 a1 HLF HLI
  rw [← HMK.out] at HST
  have HM0 := hidMk (show mk 0 = (ms.length : Int) from by rw [HMK.out]; rfl)
  go_wp2_with fail
  go_loopg [3, 4] (D + 1) (fun gg s x wr => ∃ i : Nat, i + gg = D + 1 ∧ i ≤ D ∧ s = .int .i64 (mk i) ∧ x = .int .i64 i ∧ wr = w1)
  case atStart => exact ⟨0, by omega, by omega, by rw [HM0.out], rfl, rfl⟩
  case round =>
    obtain ⟨i, hig, hiD, rfl, rfl, rfl⟩ := hrel
    have HG := hidMk hig
    clear hig
    by_cases hi : i < D
    · have hi' : (i : Int) < (D : Int) := by omega
      obtain ⟨a5, c5, hc5, _⟩ := HLF.out i hi
      have hst := HST.out i (by omega)
      rw [HLI.out i hi] at hst
      generalize (lvsN (dmL ds i)).length = n5 at *
      obtain ⟨mi1, hmi1⟩ : ∃ z, z = mk (i + 1) := ⟨_, rfl⟩
      rw [← hmi1] at hst
      have HMI := hidMk hmi1
      clear hmi1
      generalize mk i = mi at *
      go_wp2_with fail
      go_roundg (gk - 1)
      case measure => have := HG.out; omega
      case rel => exact ⟨i + 1, by have := HG.out; omega, by omega, by rw [← HMI.out, hst], by go_num, rfl⟩
    · have hie : i = D := by omega
      subst hie
      have hi' : ¬ ((i : Int) < (i : Int)) := by omega
      go_wp2_with fail
      go_ret
      exact ⟨rfl, ⟨B1, H1, HQ.out, HNX.out⟩, HC.out⟩
set_option maxHeartbeats 4000000 in
set_option maxRecDepth 100000 in
theorem r7_Cells (hE : RE W0 r q ds ms rt) (h : RQ W0 r q ds y4 y5 pp X) : Calls Tryz.prog 17 #[.pointer (some ⟨r, 0, none⟩)] X fun e w' => e = .returned (.int .i64 (mulK (fun k => many ds k) ms.length 4)) ∧ Kept X w' := by
  obtain ⟨tb, tc, ma, mc, hg⟩ := hE.get
  have HE := hidMk hE
  have hm4 := hE.ct.m4
  have hd4 := hE.ct.d4
  rw [← mulK_out (f := fun k => (many ds k : Int)) hd4 (fun k hk => by show (many ds k : Int) = 1; rw [many_out (by omega)]; rfl)]
  obtain ⟨D, hD⟩ : ∃ D, D = ds.length := ⟨_, rfl⟩
  obtain ⟨mk, hmk⟩ : ∃ mk : Nat → Int, mk = mulK (fun k => (many ds k : Int)) (ms.length : Int) := ⟨_, rfl⟩
  rw [← hD] at hd4
  rw [← hmk, ← hD]
  have HST := hidMk (show ∀ k, k < 4 → wrap64 (mulK (fun k => many ds k) ms.length k * many ds k) = mulK (fun k => many ds k) ms.length (k + 1) from fun k hk => mulK_step (by omega) (fun k => manyB HE.out.ct k) hk)
  have HLI := hidMk (show ∀ k, k < ds.length → many ds k = (dmL ds k).length from fun k hk => many_in hk)
  have HM0 := hidMk (show mk 0 = (ms.length : Int) from by rw [hmk]; rfl)
  have c0 := h.c0
  obtain ⟨q4, q1, hte⟩ := hg X h.kp
  have HTE := hidMk hte
  rw [← hD] at q4 HLI HTE
  rw [← hmk] at HST
  clear hg hE h hmk hD hte
  go_enter Tryz.func17, Tryz.ntmps17
  go_wp2_with fail
  go_loopg [3, 4] (D + 1) (fun gg s x wr => ∃ i : Nat, i + gg = D + 1 ∧ i ≤ D ∧ s = .int .i64 (mk i) ∧ x = .int .i64 i ∧ wr = X)
  case atStart => exact ⟨0, by omega, by omega, by rw [HM0.out], rfl, rfl⟩
  case round =>
    obtain ⟨i, hig, hiD, rfl, rfl, rfl⟩ := hrel
    have HG := hidMk hig
    clear hig
    by_cases hi : i < D
    · have hi' : (i : Int) < (D : Int) := by omega
      obtain ⟨hc4, b5, c5, hc5⟩ := HTE.out i hi
      have hst := HST.out i (by omega)
      rw [HLI.out i hi] at hst
      generalize (dmL ds i).length = n5 at *
      obtain ⟨mi1, hmi1⟩ : ∃ z, z = mk (i + 1) := ⟨_, rfl⟩
      rw [← hmi1] at hst
      have HMI := hidMk hmi1
      clear hmi1
      generalize mk i = mi at *
      go_wp2_with fail
      go_roundg (gk - 1)
      case measure => have := HG.out; omega
      case rel => exact ⟨i + 1, by have := HG.out; omega, by omega, by rw [← HMI.out, hst], by go_num, rfl⟩
    · have hie : i = D := by omega
      subst hie
      have hi' : ¬ ((i : Int) < (i : Int)) := by omega
      go_wp2_with fail
      go_ret
      exact ⟨rfl, Kept.refl _⟩
end
end Go.Proofs.YtmmdfpafkmhgcaaGreat
