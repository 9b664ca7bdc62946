/- moietylaw30.known: what its fixed calls come to. -/
import Derived.Test.YtbhojgodkblflaaSh9
import Derived.Test.YtbhojgodkblflaaSh7
import Derived.Test.YtbhojgodkblflaaLawDims2
namespace Go.Proofs.Ytbhojgodkblflaa
open Go.RowKit Go.Maps
set_option linter.unusedSimpArgs false
set_option linter.unusedVariables false

def k30 : List Nd := [(⟨#[97]⟩, -1)]
def ds30 : List Dm := [(⟨#[120]⟩, k30)]
def ms30 : List ByteArray := [⟨#[109]⟩]
theorem k30_good : Good k30 := by unfold Good; decide +kernel
theorem k30_new {at_ er : Int} (h : NewIs k30 at_ er) : er = 0 := by
  rcases h with ⟨h, _⟩ | ⟨_, ⟨_, _, h⟩ | ⟨q, i, hb, _, he⟩⟩
  · exact absurd h (by decide)
  · exact h
  · exact absurd (k30_good q hb.1 i hb.2.1) hb.2.2.1
theorem k30_meas : measE ms30 0 = 0 := by decide +kernel
theorem k30_tail : tailE 1 ds30 9 3 = 0 := by decide +kernel
theorem k30_cat {at_ er : Int} (h : CatIs ds30 ms30 9 3 at_ er) : er = 0 := by
  rcases h with ⟨h, _⟩ | ⟨_, ⟨k, hk, ha, hn, _⟩ | ⟨_, ⟨i, hi, hn, _⟩ | ⟨_, h⟩, _⟩⟩
  · exact absurd h (by decide)
  · have : k = 0 := by have : ds30.length = 1 := rfl; omega
    subst this
    rcases ha with ⟨h, _⟩ | ⟨_, h, _⟩ | ⟨_, _, a, h⟩
    · exact absurd h (by decide +kernel)
    · exact absurd (by decide +kernel) h
    · exact k30_new h
  · have : i = 0 := by have : ms30.length = 1 := rfl; omega
    subst this
    exact absurd k30_meas hn
  · rw [h]; exact k30_tail
theorem k30_small : Sm30 ds30 ms30.length := by
  refine ⟨by decide, by decide, fun k hk => ?_⟩
  have : k = 0 := by have : ds30.length = 1 := rfl; omega
  subst this
  decide
theorem k30_ns (w : World) (t : TypeId) : Ns (w.alloc (.cells #[.string ⟨#[97]⟩, .int .i64 (-1)] t)) (some ⟨w.heap.size, 0, none⟩) 1 k30 := by
  refine ⟨rfl, by unfold maxLen; omega, ?_, ?_, fun _ => ⟨_, _, rfl, by simp, fun i hi => ?_⟩⟩
  · intro i hi
    have : i = 0 := by have : k30.length = 1 := rfl; omega
    subst this
    unfold maxLen; decide +kernel
  · intro i hi
    have : i = 0 := by have : k30.length = 1 := rfl; omega
    subst this
    unfold isI; decide +kernel
  · have : i = 0 := by omega
    subst this
    simp [k30, nmA, upA]
theorem k30_dss {w : World} {q g : Nat} (h1 : w.cell? ⟨g, 0, none⟩ = some (.string ⟨#[120]⟩)) (h2 : w.cell? ⟨g, 1, none⟩ = some (.slice (some ⟨q, 0, none⟩) 1 1)) (hn : Ns w (some ⟨q, 0, none⟩) 1 k30) : Dss w (some ⟨g, 0, none⟩) 1 ds30 (fun _ => (some ⟨q, 0, none⟩, 1, 1)) := by
  refine ⟨rfl, by unfold maxLen; omega, fun k hk => ?_, fun k hk => ?_, fun _ => ⟨_, _, rfl, cell_lt h1, fun k hk => ?_⟩⟩
  · have : k = 0 := by omega
    subst this
    unfold maxLen; decide +kernel
  · have : k = 0 := by omega
    subst this
    exact hn
  · have : k = 0 := by omega
    subst this
    exact ⟨h1, h2⟩
theorem k30_sz : ∀ i, i < ms30.length → (msA ms30 i).size ≤ maxLen := fun i hi => by
  have : i = 0 := by have : ms30.length = 1 := rfl; omega
  subst this
  unfold maxLen; decide +kernel
def cl30 : Nat → Cs := fun _ => ⟨0, 0, 0, 0, 0, 1, 2, 3, false⟩
theorem numS_dig (n : Nat) (h : n < 10) : numS (n : Int) = str [48 + (n : Int)] := by
  unfold numS numL
  rw [if_neg (by omega), Int.toNat_natCast, digs_lt h]
theorem k30_cell : fC 0 ms30 ds30 0 0 0 0 0 = ⟨#[109, 47, 97]⟩ := by decide +kernel
theorem k30_rep : replyL (fC 0 ms30 ds30) 10 20 0 [] 0 (fun _ => ⟨0, 0, 0, 0, 0, 0, 0⟩) 0 (fun _ => ⟨0, 0, 0, 0, 0, ByteArray.empty⟩) 1 cl30 = [⟨#[99, 108, 97, 115, 104, 32, 109, 47, 97, 32, 49, 32, 50, 32, 51]⟩, ⟨#[101, 114, 114, 111, 114, 32, 50, 48]⟩] := by
  have h1 : clB (fC 0 ms30 ds30) cl30 0 = ⟨#[99, 108, 97, 115, 104, 32, 109, 47, 97, 32, 49, 32, 50, 32, 51]⟩ := by
    show clashB (fC 0 ms30 ds30 0 0 0 0 0) 1 2 3 false = _
    unfold clashB
    rw [if_neg (by decide), k30_cell, show (1 : Int) = ((1 : Nat) : Int) from rfl, show (2 : Int) = ((2 : Nat) : Int) from rfl, show (3 : Int) = ((3 : Nat) : Int) from rfl, numS_dig 1 (by omega), numS_dig 2 (by omega), numS_dig 3 (by omega)]
    decide +kernel
  have h2 : wrongB 20 (-1) = ⟨#[101, 114, 114, 111, 114, 32, 50, 48]⟩ := by
    unfold wrongB
    rw [if_neg (by omega)]
    unfold numS numL
    rw [if_neg (by omega), show ((20 : Int)).toNat = 20 from rfl, digs_ge (by omega), show 20 / 10 = 2 from rfl, digs_lt (n := 2) (by omega)]
    decide +kernel
  unfold replyL
  rw [if_pos (by decide), h2]
  unfold lnL
  rw [show List.range 1 = [0] from rfl, List.map_cons, List.map_nil, h1]
  rfl
theorem k30_num : replyL (fC 0 ms30 ds30) 11 0 5 [] 0 (fun _ => ⟨0, 0, 0, 0, 0, 0, 0⟩) 0 (fun _ => ⟨0, 0, 0, 0, 0, ByteArray.empty⟩) 0 cl30 = [⟨#[53]⟩] := by
  unfold replyL
  rw [if_neg (by decide), if_pos (by decide), show (5 : Int) = ((5 : Nat) : Int) from rfl, numS_dig 5 (by omega)]
  decide +kernel
theorem rq_none {α : Type} (F : α → List Value) (k : Nat) (w : World) (g : Nat → α) : Rq F k w none 0 g := ⟨Nat.zero_le _, fun h => absurd h (by omega)⟩
theorem rpin_none (w : World) (ca : Option Addr) (cn : Nat) (cls : Nat → Cs) (h : Rq csF 9 w ca cn cls) : RpIn w none 0 [] none 0 (fun _ => ⟨0, 0, 0, 0, 0, 0, 0⟩) none 0 (fun _ => ⟨0, 0, 0, 0, 0, ByteArray.empty⟩) ca cn cls :=
  ⟨⟨rfl, Nat.zero_le _, fun h => absurd h (by omega)⟩, rq_none _ _ _ _, rq_none _ _ _ _, h⟩
theorem rpok30 (why n : Int) (cn : Nat) (h1 : isI why) (h2 : isI n) : RpOk why n 0 (fun _ => ⟨0, 0, 0, 0, 0, 0, 0⟩) 0 (fun _ => ⟨0, 0, 0, 0, 0, ByteArray.empty⟩) cn cl30 :=
  ⟨h1, h2, fun i hi => absurd hi (by omega), fun i hi => absurd hi (by omega), fun i _ => by unfold cl30 isI; simp⟩
theorem cl30_rq {W : World} {g : Nat} (h : ∀ t u, (csF (cl30 0))[t]? = some u → W.cell? ⟨g, t, none⟩ = some u) : Rq csF 9 W (some ⟨g, 0, none⟩) 1 cl30 :=
  ⟨by unfold maxLen; omega, fun _ => ⟨g, 0, rfl, cell_lt (h 0 _ rfl), fun i hi t u hu => by
    have : i = 0 := by omega
    subst this
    simpa using h t u hu⟩⟩
set_option maxHeartbeats 4000000 in
set_option maxRecDepth 100000 in
theorem law30_known (w : World) : Calls Try.prog 6 #[] w fun e w' => e = .returned (.bool true) ∧ Kept w w' := by
  have HO := hidMk (fun (W : World) g q b (h1 : W.cell? ⟨g, 0, none⟩ = some (.string ⟨#[120]⟩)) (h2 : W.cell? ⟨g, 1, none⟩ = some (.slice (some ⟨q, 0, none⟩) 1 1)) (hn : Ns W (some ⟨q, 0, none⟩) 1 k30) (h3 : W.cell? ⟨b, 0, none⟩ = some (.string ⟨#[109]⟩)) => law30_open (some ⟨g, 0, none⟩) 1 1 ds30 _ (some ⟨b, 0, none⟩) 1 1 ms30 9 3 W (k30_dss h1 h2 hn) (one_ss h3) k30_sz)
  have HNS := hidMk (k30_ns w)
  go_enter Try.func6, Try.ntmps6
  go_wp2_with fail
  refine (HO.out _ _ w.heap.size _ ?c1 ?c2 ?c3 ?c4).mono ?_
  case c1 => exact ((Kept.refl _).alloc _).cellp (new_cell _ _ _ _ _ _ (by simp) rfl)
  case c2 => exact ((Kept.refl _).alloc _).cellp (new_cell _ _ _ _ _ _ (by simp) rfl)
  case c3 => exact (HNS.out _).kept (((Kept.refl _).alloc _).alloc _)
  case c4 => exact new_cell _ _ _ _ _ _ (by simp) rfl
  rintro e w1 ⟨⟨rfl, hns⟩ | ⟨pd, pq, at_, er, rfl, hc, hp, hq, hf⟩, k1⟩
  · exact absurd k30_small hns
  obtain rfl := k30_cat hc
  have HP := hidMk hp
  have HF := hidMk hf
  have K1 := hidMk (show Kept w w1 from ((((Kept.refl w).alloc _).alloc _).alloc _).trans k1)
  have HR1 := hidMk (fun (y : World) (hy : Kept w1 y) (g : Nat) (hg : ∀ t u, (csF (cl30 0))[t]? = some u → y.cell? ⟨g, t, none⟩ = some u) => k30_rep ▸ show_Reply hf pd 10 20 0 none 0 0 [] none 0 0 (fun _ => ⟨0, 0, 0, 0, 0, 0, 0⟩) none 0 0 (fun _ => ⟨0, 0, 0, 0, 0, ByteArray.empty⟩) (some ⟨g, 0, none⟩) 1 1 cl30 y (hp.kept hy) (rpin_none y _ _ _ (cl30_rq hg)) (rpok30 20 0 1 (by unfold isI; omega) (by unfold isI; omega)) (by omega) (by omega) (by omega) (by omega))
  have HR2 := hidMk (fun (y : World) (hy : Kept w1 y) => k30_num ▸ show_Reply hf pd 11 0 5 none 0 0 [] none 0 0 (fun _ => ⟨0, 0, 0, 0, 0, 0, 0⟩) none 0 0 (fun _ => ⟨0, 0, 0, 0, 0, ByteArray.empty⟩) none 0 0 cl30 y (hp.kept hy) (rpin_none y _ _ _ (rq_none _ _ _ _)) (rpok30 0 5 0 (by unfold isI; omega) (by unfold isI; omega)) (by omega) (by omega) (by omega) (by omega))
  clear hc hp hq hf k1 HO HNS
  go_wp2_with fail
  refine (HR1.out _ ((Kept.refl _).alloc _) _ ?_).mono ?_
  · intro t u hu
    refine new_cell _ _ _ _ _ _ rfl ?_
    unfold csF cl30 at hu
    simpa using hu
  rintro e w2 ⟨v2, rfl, o2, k2⟩
  have K2 := hidMk (show Kept w1 w2 from ((Kept.refl w1).alloc _).trans k2)
  obtain ⟨a2, c2, rfl, s2, _⟩ := own_ss (by simp; unfold maxLen; omega) o2
  have S2 := hidMk s2
  clear k2 o2 s2
  have HSM := hidMk (fun (y : World) (hy : Kept w2 y) (g : Nat) (h1 : y.cell? ⟨g, 0, none⟩ = some (.string ⟨#[99, 108, 97, 115, 104, 32, 109, 47, 97, 32, 49, 32, 50, 32, 51]⟩)) (h2 : y.cell? ⟨g, 1, none⟩ = some (.string ⟨#[101, 114, 114, 111, 114, 32, 50, 48]⟩)) => ref3_Same a2 (some ⟨g, 0, none⟩) 2 c2 2 _ y (S2.out.kept hy) (two_ssS h1 h2))
  go_wp2_with fail
  refine (HSM.out _ ((Kept.refl _).alloc _) _ ?_ ?_).mono ?_
  · exact new_cell _ _ _ _ _ _ rfl rfl
  · exact new_cell _ _ _ _ _ _ rfl rfl
  rintro e w3 ⟨rfl, k3⟩
  have K3 := hidMk (show Kept w2 w3 from ((Kept.refl w2).alloc _).trans k3)
  clear k3 HSM
  go_wp2_with fail
  refine (HR2.out _ (K2.out.trans K3.out)).mono ?_
  rintro e w4 ⟨v4, rfl, o4, k4⟩
  have K4 := hidMk k4
  obtain ⟨a4, c4, rfl, s4, _⟩ := own_ss (by simp; unfold maxLen; omega) o4
  have S4 := hidMk s4
  clear k4 o4 s4
  have HSN := hidMk (fun (y : World) (hy : Kept w4 y) (g : Nat) (h1 : y.cell? ⟨g, 0, none⟩ = some (.string ⟨#[53]⟩)) => ref3_Same a4 (some ⟨g, 0, none⟩) 1 c4 1 _ y (S4.out.kept hy) (one_ssS h1))
  go_wp2_with fail
  refine (HSN.out _ ((Kept.refl _).alloc _) _ ?_).mono ?_
  · exact new_cell _ _ _ _ _ _ rfl rfl
  rintro e w5 ⟨rfl, k5⟩
  have K5 := hidMk (show Kept w4 w5 from ((Kept.refl w4).alloc _).trans k5)
  clear k5 HSN
  go_wp2_with fail
  go_ret
  exact ⟨rfl, K1.out.trans (K2.out.trans (K3.out.trans (K4.out.trans K5.out)))⟩
end Go.Proofs.Ytbhojgodkblflaa
