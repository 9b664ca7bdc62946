/- wire.behind, alone, Put, Text, All. -/
import Derived.Test.YtapcmkhpbdphoaaWire1
namespace Go.Proofs.Ytapcmkhpbdphoaa
open Go.RowKit
set_option linter.unusedSimpArgs false
set_option linter.unusedVariables false

theorem encI_len (n : Int) (h : isI n) : (encI n).length ≤ 10 := enc_len _ 10 (by omega) (by
  have := zig_lt h
  have : (128 : Nat) ^ 10 = 1180591620717411303424 := by decide
  omega)

set_option maxHeartbeats 1000000 in
set_option maxRecDepth 100000 in
theorem wire_behind (v : Value) (l : List Int) (n : Int) (w0 w : World) (hv : BRow w0 w v l) (hk : Kept w0 w) (hn : isI n) (hl : l.length + 10 ≤ 140737488355328) :
    Calls Try.prog 55 #[v, .int .i64 n] w fun e w' => ∃ v', e = .returned v' ∧ Owned w0 w' v' (l ++ encI n) ∧ Kept w0 w' := by
  have hzw := zig_word n hn
  have hlt := zig_lt hn
  have HLEN := hidMk (encI_len n hn)
  have HE := hidMk (show encI n = enc (zig n) from rfl)
  have HV := hidMk hv
  have HK := hidMk hk
  generalize zig n = u0 at *
  clear hv hk
  go_enter Try.func55, Try.ntmps55
  go_wp2
  go_loopw [0, 5] (fun v b wr => ∃ (u : Nat) (m : List Int), b = .int .u64 u ∧ u < 18446744073709551616 ∧ m ++ enc u = l ++ encI n ∧ BRow w0 wr v m ∧ Kept w0 wr) (fun _ b _ => (intOf b).toNat)
  case atStart => exact ⟨u0, l, rfl, hlt, by rw [HE.out], HV.out, HK.out⟩
  case round =>
    obtain ⟨u, m, rfl, hu, hm, hrow, hkept⟩ := hrel
    have hlen : m.length + (enc u).length = l.length + (encI n).length := by
      have := congrArg List.length hm
      simpa using this
    have hpos := enc_pos u
    have hle := HLEN.out
    have H1 := hidMk hm
    have H2 := hidMk hrow
    have H3 := hidMk hkept
    have h47 : m.length + 1 ≤ 140737488355328 := by omega
    clear hm hrow hkept hlen hpos hle
    by_cases h128 : 128 ≤ u
    · have hor : bits .or .u8 ((u : Int) % 256) 128 = ((u % 128 + 128 : Nat) : Int) := by rw [← IntKind.wrap_u8]; exact or128_word u
      have hge : (128 : Int) ≤ (u : Int) := by omega
      generalize hy : ((u % 128 + 128 : Nat) : Int) = y at *
      have HY := hidMk hy
      clear hy
      go_wp2_with (at_builtin; refine wpList_push _ rfl _ _ rfl w0 _ m rfl (H2.out.alloc _) (H3.out.alloc _) wr.heap.size y rfl ?c1 ?c2 ?_)
      case c1 => simp [hor]
      case c2 => omega
      intro v' w' ho hk'
      have H4 := hidMk ho
      have H5 := hidMk hk'
      clear ho hk'
      go_wp2
      refine ⟨⟨u / 128, m ++ [y], by go_num, by omega, ?_, .inl H4.out, H5.out⟩, ?_⟩
      · rw [← H1.out, enc_ge (u := u) (by omega), HY.out]; simp
      · simp [intOf]; omega
    · have hlt2 : (u : Int) < 128 := by omega
      have hw : ((u : Int) % 256) = (u : Int) := by omega
      go_wp2_with (at_builtin; refine wpList_push _ rfl _ _ rfl w0 _ m rfl (H2.out.alloc _) (H3.out.alloc _) wr.heap.size (u : Int) rfl ?c1 ?c2 ?_)
      case c1 => simp [hw]
      case c2 => omega
      intro v' w' ho hk'
      have H4 := hidMk ho
      have H5 := hidMk hk'
      clear ho hk'
      go_wp2
      go_ret
      refine ⟨_, rfl, ?_, H5.out⟩
      rw [← H1.out, enc_lt (u := u) (by omega)]
      exact H4.out

/-- A text's bytes as numbers. -/
def byt (s : ByteArray) : List Int := s.data.toList.map fun b => (b.toNat : Int)
theorem byt_len (s : ByteArray) : (byt s).length = s.size := by unfold byt; rw [List.length_map, Array.length_toList]; rfl
theorem byt_isB (s : ByteArray) : ∀ x ∈ byt s, isB x := by
  intro x hx
  simp only [byt, List.mem_map] at hx
  obtain ⟨b, _, rfl⟩ := hx
  have := b.toNat_lt
  unfold isB; omega
theorem strCells_byt (s : ByteArray) : Lib.strCells s = (byt s).map (Value.int .u8) := by
  unfold Lib.strCells byt
  simp [List.map_map, Function.comp_def]
def txt (s : ByteArray) : List Int := encI (s.size : Int) ++ byt s

/-- The bytes of many numbers. -/
def allB (l : List Int) : List Int := l.flatMap encI
theorem allB_take {l : List Int} {k : Nat} (h : k < l.length) : allB (l.take (k + 1)) = allB (l.take k) ++ encI (l.getD k 0) := by
  unfold allB
  rw [List.take_succ_eq_append_getElem h, List.flatMap_append, List.getD_eq_getElem?_getD, List.getElem?_eq_getElem h]
  simp
theorem allB_len (l : List Int) (h : ∀ x ∈ l, isI x) : (allB l).length ≤ 10 * l.length := by
  induction l with
  | nil => simp [allB]
  | cons x r ih =>
    have := ih fun y hy => h y (List.mem_cons_of_mem _ hy)
    have := encI_len x (h x (List.mem_cons_self ..))
    simp only [allB, List.flatMap_cons, List.length_append, List.length_cons] at *
    omega
theorem getD_in {l : List Int} {k : Nat} (h : k < l.length) : l.getD k 0 ∈ l := by
  rw [List.getD_eq_getElem?_getD, List.getElem?_eq_getElem h]; exact List.getElem_mem h

set_option maxHeartbeats 400000 in
theorem wire_All (a : Option Addr) (n c : Nat) (l : List Int) (w : World) (hs : Sl .i64 w a n l) (hx : ∀ x ∈ l, isI x) (hl : 10 * n + 10 ≤ 140737488355328) :
    Calls Try.prog 40 #[.slice a n c] w fun e w' => ∃ v, e = .returned v ∧ Owned w w' v (allB l) ∧ Kept w w' := by
  have H := hidMk hs
  have HX := hidMk hx
  have hlen := hs.len
  clear hs hx
  go_enter Try.func40, Try.ntmps40
  go_wp2
  go_loopw [3, 5, 8] (fun v _ i wr => ∃ k : Nat, k ≤ n ∧ i = .int .i64 k ∧ Owned w wr v (allB (l.take k)) ∧ Kept w wr) (fun _ _ i _ => n - (intOf i).toNat)
  case atStart => exact ⟨0, Nat.zero_le _, rfl, World.ownsRow_nil _ _ _ _, Kept.refl _⟩
  case round =>
    obtain ⟨k, hk, rfl, ho, hkept⟩ := hrel
    by_cases hkn : k < n
    · obtain ⟨b, o, rfl, hb, hcs⟩ := H.out.cells (by omega)
      have hcell := (hkept.cell (p := ⟨b, o + k, none⟩) hb).trans (hcs k hkn)
      have hxi := HX.out _ (getD_in (l := l) (k := k) (by omega))
      have H1 := hidMk (allB_take (l := l) (k := k) (by omega))
      have H2 := hidMk ho
      have H3 := hidMk hkept
      have hll : (allB (l.take k)).length + 10 ≤ 140737488355328 := by
        have := allB_len (l.take k) fun x hx => HX.out x (List.mem_of_mem_take hx)
        rw [List.length_take] at this
        omega
      have H4 := hidMk hxi
      have H5 := hidMk hll
      clear hcs ho hkept hxi hll
      generalize l.getD k 0 = x at *
      go_wp2_with (go_at_call 55; refine (wire_behind _ _ x w _ (.inl H2.out) H3.out H4.out H5.out).mono ?_; rintro e w2 ⟨v2, rfl, ho2, hk2⟩)
      exact ⟨⟨k + 1, by omega, by go_num, by rw [H1.out]; exact ho2, hk2⟩, by simp [intOf]; omega⟩
    · have e : l.take k = l := List.take_of_length_le (by omega)
      rw [e] at ho
      have H2 := hidMk ho
      have H3 := hidMk hkept
      clear ho hkept
      go_wp2
      go_ret
      exact ⟨_, rfl, H2.out, H3.out⟩
end Go.Proofs.Ytapcmkhpbdphoaa
