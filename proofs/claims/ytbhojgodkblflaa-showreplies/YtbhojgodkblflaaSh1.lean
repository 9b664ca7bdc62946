/- show: lines of words, a row, a lock, a clash, an error, and the definition's. -/
import Derived.Test.YtbhojgodkblflaaNumB
import Derived.Test.YtbhojgodkblflaaDims11
import Derived.Test.YtbhojgodkblflaaRefDims6
import Derived.Deep.RegionHeld3
namespace Go.Proofs.Ytbhojgodkblflaa
open Go.RowKit Go.Maps
set_option linter.unusedSimpArgs false
set_option linter.unusedVariables false

def spB : ByteArray := ⟨#[32]⟩
theorem joinB2 (a b : ByteArray) : joinB spB [a, b] = a ++ spB ++ b := by
  have := joinB_snoc spB b [a] (by simp)
  rw [joinB_one] at this; exact this
theorem joinB3 (a b c : ByteArray) : joinB spB [a, b, c] = a ++ spB ++ b ++ spB ++ c := by
  have := joinB_snoc spB c [a, b] (by simp)
  rw [joinB2] at this; exact this
theorem joinB4 (a b c d : ByteArray) : joinB spB [a, b, c, d] = a ++ spB ++ b ++ spB ++ c ++ spB ++ d := by
  have := joinB_snoc spB d [a, b, c] (by simp)
  rw [joinB3] at this; exact this
theorem joinB5 (a b c d e : ByteArray) : joinB spB [a, b, c, d, e] = a ++ spB ++ b ++ spB ++ c ++ spB ++ d ++ spB ++ e := by
  have := joinB_snoc spB e [a, b, c, d] (by simp)
  rw [joinB4] at this; exact this
theorem joinB6 (a b c d e f : ByteArray) : joinB spB [a, b, c, d, e, f] = a ++ spB ++ b ++ spB ++ c ++ spB ++ d ++ spB ++ e ++ spB ++ f := by
  have := joinB_snoc spB f [a, b, c, d, e] (by simp)
  rw [joinB5] at this; exact this
theorem numS_le {x : Int} (hx : isI x) : (numS x).size ≤ 20 := by
  unfold isI at hx
  unfold numS
  rw [str_size]
  have h19 : (10 : Nat) ^ 19 = 10000000000000000000 := by decide
  unfold numL
  by_cases h : x < 0
  · rw [if_pos h]
    have := digs_len (-x).toNat 19 (by omega) (by omega)
    simp only [List.length_cons]; omega
  · rw [if_neg h]
    have := digs_len x.toNat 19 (by omega) (by omega)
    omega
def clashW : ByteArray := ⟨#[99, 108, 97, 115, 104]⟩
def heldW : ByteArray := ⟨#[104, 101, 108, 100]⟩
def errorW : ByteArray := ⟨#[101, 114, 114, 111, 114]⟩
def atW : ByteArray := ⟨#[97, 116]⟩
def rowB (kind : Int) (s : ByteArray) (a b : Int) : ByteArray := if kind = 13 then s ++ spB ++ numS a ++ spB ++ numS b else if kind = 17 ∨ kind = 18 then s ++ spB ++ numS a else s
def lockB (s u : ByteArray) : ByteArray := s ++ spB ++ u
def clashB (s : ByteArray) (a b c : Int) (h : Bool) : ByteArray := if h then clashW ++ spB ++ s ++ spB ++ numS a ++ spB ++ numS b ++ spB ++ numS c ++ spB ++ heldW else clashW ++ spB ++ s ++ spB ++ numS a ++ spB ++ numS b ++ spB ++ numS c
def wrongB (why k : Int) : ByteArray := if 0 ≤ k then errorW ++ spB ++ numS why ++ spB ++ atW ++ spB ++ numS k else errorW ++ spB ++ numS why
theorem ss_lit {W : World} {g n : Nat} {l : List ByteArray} (hn : l.length = n) (hm : n ≤ 100) (h : ∀ i, i < n → W.cell? ⟨g, i, none⟩ = some (.string (l.getD i ByteArray.empty))) : Ss W (some ⟨g, 0, none⟩) n l := by
  refine ⟨hn, by unfold maxLen; omega, fun hp => ⟨g, 0, rfl, cell_lt (h 0 hp), fun i hi => ?_⟩⟩
  rw [Nat.zero_add]; exact h i hi
theorem show_words (a : Option Addr) (n c : Nat) (l : List ByteArray) (w : World) (hs : Ss w a n l) (hc : n ≤ c) (hn : n ≤ 140737488355328) (hlen : (joinB spB l).size ≤ 140737488355328) :
    Calls Try.prog 21 #[.slice a n c] w fun e w' => e = .returned (.string (joinB spB l)) ∧ Kept w w' := by
  rw [joinB_size] at hlen
  have H := hidMk (text_Join spB a n c l w hs hc hn hlen)
  unfold spB at *
  clear hs hlen
  go_enter Try.func21, Try.ntmps21
  go_wp2_with fail
  refine H.out.mono ?_
  rintro e w1 ⟨rfl, k1⟩
  have K1 := hidMk k1
  clear k1
  go_wp2_with fail
  go_ret
  exact ⟨rfl, K1.out⟩
theorem words2 (x y : ByteArray) (hx : x.size + y.size ≤ 140737488355327) (W : World) (g : Nat) (h0 : W.cell? ⟨g, 0, none⟩ = some (.string x)) (h1 : W.cell? ⟨g, 1, none⟩ = some (.string y)) :
    Calls Try.prog 21 #[.slice (some ⟨g, 0, none⟩) 2 2] W fun e w' => e = .returned (.string (x ++ spB ++ y)) ∧ Kept W w' := by
  have h := show_words (some ⟨g, 0, none⟩) 2 2 [x, y] W (ss_lit rfl (by omega) (fun i hi => by
    have : i = 0 ∨ i = 1 := by omega
    rcases this with rfl | rfl <;> assumption)) (by omega) (by omega) (by rw [joinB2]; simp only [ByteArray.size_append]; have : spB.size = 1 := rfl; omega)
  rw [joinB2] at h; exact h
theorem words3 (x y z : ByteArray) (hx : x.size + y.size + z.size ≤ 140737488355326) (W : World) (g : Nat) (h0 : W.cell? ⟨g, 0, none⟩ = some (.string x)) (h1 : W.cell? ⟨g, 1, none⟩ = some (.string y)) (h2 : W.cell? ⟨g, 2, none⟩ = some (.string z)) :
    Calls Try.prog 21 #[.slice (some ⟨g, 0, none⟩) 3 3] W fun e w' => e = .returned (.string (x ++ spB ++ y ++ spB ++ z)) ∧ Kept W w' := by
  have h := show_words (some ⟨g, 0, none⟩) 3 3 [x, y, z] W (ss_lit rfl (by omega) (fun i hi => by
    have : i = 0 ∨ i = 1 ∨ i = 2 := by omega
    rcases this with rfl | rfl | rfl <;> assumption)) (by omega) (by omega) (by rw [joinB3]; simp only [ByteArray.size_append]; have : spB.size = 1 := rfl; omega)
  rw [joinB3] at h; exact h
/-- What is asked of a catalogue's Show: it answers f of a cell. -/
def ShP (fn : FuncId) (d : Value) (f : Int → Int → Int → Int → Int → ByteArray) (w : World) : Prop :=
  ∀ y, Kept w y → ∀ c0 c1 c2 c3 c4 : Int, Calls Try.prog fn #[d, .agg #[.int .i64 c0, .int .i64 c1, .int .i64 c2, .int .i64 c3, .int .i64 c4]] y fun e w' => e = .returned (.string (f c0 c1 c2 c3 c4)) ∧ Kept y w'
theorem ShP.kept {fn : FuncId} {d : Value} {f : Int → Int → Int → Int → Int → ByteArray} {w w' : World} (h : ShP fn d f w) (k : Kept w w') : ShP fn d f w' := fun y hy => h y (k.trans hy)
set_option maxHeartbeats 2000000 in
set_option maxRecDepth 100000 in
theorem show_Row (d : Value) (kind c0 c1 c2 c3 c4 a b : Int) (f : Int → Int → Int → Int → Int → ByteArray) (w : World) (hS : ShP 20 d f w) (hf : (f c0 c1 c2 c3 c4).size ≤ 1000) (ha : isI a) (hb : isI b) :
    Calls Try.prog 7 #[d, .int .i64 kind, .agg #[.int .i64 c0, .int .i64 c1, .int .i64 c2, .int .i64 c3, .int .i64 c4, .int .i64 a, .int .i64 b]] w fun e w' => e = .returned (.string (rowB kind (f c0 c1 c2 c3 c4) a b)) ∧ Kept w w' := by
  have HS := hidMk (show ∀ y, Kept w y → _ from fun y hy => hS y hy c0 c1 c2 c3 c4)
  have HN := hidMk (fun (x : Int) (hx : isI x) (y : World) => text_Num x hx y)
  have HA := hidMk ha
  have HB := hidMk hb
  have HA2 := hidMk (numS_le ha)
  have HB2 := hidMk (numS_le hb)
  have HF := hidMk hf
  clear hS hf ha hb
  generalize hs : f c0 c1 c2 c3 c4 = s at *
  clear hs
  by_cases h13 : kind = 13
  · subst h13
    have HE := hidMk (show rowB 13 s a b = s ++ spB ++ numS a ++ spB ++ numS b from rfl)
    rw [HE.out]
    have HW := hidMk (words3 s (numS a) (numS b) (by have h1 := HF.out; have h2 := HA2.out; have h3 := HB2.out; omega))
    generalize (s ++ spB ++ numS a ++ spB ++ numS b) = r at *
    clear HA2 HB2 HF
    clear HE
    go_enter Try.func7, Try.ntmps7
    go_wp2_with fail
    refine (HS.out _ ((Kept.refl w).alloc _)).mono ?_
    rintro e w1 ⟨rfl, k1⟩
    have x5 : w1.cell? ⟨w.heap.size, 5, none⟩ = some (.int .i64 a) := k1.cellp (by simp)
    have x6 : w1.cell? ⟨w.heap.size, 6, none⟩ = some (.int .i64 b) := k1.cellp (by simp)
    have K1 := hidMk (((Kept.refl w).alloc _).trans k1)
    clear k1
    go_wp2_with fail
    go_region_held3 (fun w' => w'.cell? ⟨w.heap.size, 5, none⟩ = some (.int .i64 a) ∧ w'.cell? ⟨w.heap.size, 6, none⟩ = some (.int .i64 b)) (first | (refine ⟨?_, ?_⟩ <;> assumption) | (refine ⟨Kept.cellp ?_ x5, Kept.cellp ?_ x6⟩ <;> (repeat (first | (with_reducible exact Kept.refl _) | (with_reducible refine Kept.alloc ?_ _) | (with_reducible refine Kept.drew ?_) | (with_reducible refine Kept.drewN ?_ _) | (with_reducible refine Kept.trans ?_ (by assumption))))) | go_keep)
      (first
        | (go_at_call 22; refine (HN.out _ (by first | exact HA.out | exact HB.out) _).mono ?_; rintro e y5 ⟨rfl, k5⟩)
        | (go_at_call 21; refine (HW.out _ _ (by simp) (by simp) (by simp)).mono ?_; rintro e y7 ⟨rfl, k7⟩; have K7 := hidMk (show Kept w1 y7 by (repeat (first | (with_reducible exact Kept.refl _) | (with_reducible refine Kept.alloc ?_ _) | (with_reducible refine Kept.drew ?_) | (with_reducible refine Kept.drewN ?_ _) | (with_reducible refine Kept.trans ?_ (by assumption)))))))
    go_wp2_with fail
    go_ret
    exact ⟨rfl, K1.out.trans (by first | exact K7.out | exact K7.out.drew | exact K7.out.drewN _)⟩
  · by_cases h17 : kind = 17 ∨ kind = 18
    · have HE := hidMk (show rowB kind s a b = s ++ spB ++ numS a by unfold rowB; rw [if_neg h13, if_pos h17])
      rw [HE.out]
      have HW := hidMk (words2 s (numS a) (by have h1 := HF.out; have h2 := HA2.out; omega))
      generalize (s ++ spB ++ numS a) = r at *
      generalize hna : numS a = na at *
      have HNA := hidMk (show ∀ y, Calls Try.prog 22 #[.int .i64 a] y fun e w' => e = .returned (.string na) ∧ Kept y w' from fun y => hna ▸ HN.out a HA.out y)
      clear hna HN HE h13 HB2
      rcases h17 with rfl | rfl <;>
      · go_enter Try.func7, Try.ntmps7
        go_wp2_with fail
        refine (HS.out _ ((Kept.refl w).alloc _)).mono ?_
        rintro e w1 ⟨rfl, k1⟩
        have x5 : w1.cell? ⟨w.heap.size, 5, none⟩ = some (.int .i64 a) := k1.cellp (by simp)
        have K1 := hidMk (((Kept.refl w).alloc _).trans k1)
        clear k1
        go_wp2_with fail
        refine (HNA.out _).mono ?_
        rintro e w2 ⟨rfl, k2⟩
        have K2 := hidMk k2
        clear k2
        go_wp2_with fail
        refine (HW.out _ _ (by simp) (by simp)).mono ?_
        rintro e w3 ⟨rfl, k3⟩
        have K7 := hidMk (show Kept w1 w3 from (K2.out.alloc _).trans k3)
        clear k3
        go_wp2_with fail
        go_ret
        exact ⟨rfl, K1.out.trans (by first | exact K7.out | exact K7.out.drew | exact K7.out.drewN _)⟩
    · have HE := hidMk (show rowB kind s a b = s by unfold rowB; rw [if_neg h13, if_neg h17])
      rw [HE.out]
      have h18 : ¬ kind = 18 := fun e => h17 (.inr e)
      have h17' : ¬ kind = 17 := fun e => h17 (.inl e)
      clear HE h17 HN HA2 HB2
      go_enter Try.func7, Try.ntmps7
      go_wp2_with fail
      refine (HS.out _ ((Kept.refl w).alloc _)).mono ?_
      rintro e w1 ⟨rfl, k1⟩
      have K1 := hidMk (((Kept.refl w).alloc _).trans k1)
      clear k1
      go_wp2_with fail
      go_ret
      exact ⟨rfl, K1.out⟩
end Go.Proofs.Ytbhojgodkblflaa
