/-
  What the model answers for ShowDeed: the words of a right deed with blanks between them; nothing where the deed isn't right.
-/
import Derived.Test.YtghpmhfhenndiaaDoorDeedN
import Derived.Deep.RegionHeld3
import Derived.Deep.CutBlock
namespace Go.Proofs.YtghpmhfhenndiaaDoor
open Go.RowKit
set_option maxRecDepth 100000
set_option linter.unusedVariables false
namespace De
open Kn (dec B split)

theorem join_len (m : Nat) : ∀ l : List (List UInt8), (∀ x ∈ l, x.length ≤ m) → (joinW l).length ≤ l.length * (m + 1) := by
  intro l
  induction l with
  | nil => intro _; exact Nat.zero_le _
  | cons a l ih =>
    intro h
    have h1 := h a (by simp)
    have h2 := ih (fun x hx => h x (by simp [hx]))
    have e : (l.length + 1) * (m + 1) = l.length * (m + 1) + (m + 1) := Nat.succ_mul _ _
    cases l with
    | nil => show a.length ≤ _; simp; omega
    | cons b r =>
      show (a ++ 32 :: joinW (b :: r)).length ≤ ((b :: r).length + 1) * (m + 1)
      rw [List.length_append, List.length_cons, e]; omega
theorem take_snocW (W : List (List UInt8)) (k : Nat) (h : k < W.length) : W.take (k + 1) = W.take k ++ [W.getD k []] := by
  rw [List.take_add_one, List.getElem?_eq_getElem h]; simp [List.getD, h]

set_option maxHeartbeats 1600000 in
theorem l1Words (g cap : Nat) (W : List (List UInt8)) (w : World) (hn : W.length ≤ 1000) (hl : ∀ x ∈ W, x.length ≤ 1000) (hc : ∀ j, j < W.length → w.cell? ⟨g, j, none⟩ = some (.string (B (W.getD j [])))) :
    Calls Tryd.prog 39 #[.slice (some ⟨g, 0, none⟩) W.length cap] w fun e w' => e = .returned (.string (B (joinW W))) ∧ w = w' := by
  have HL : Hid (∀ k, (B (joinW (W.take k))).size ≤ 1001000) := fun k => by
    rw [Kn.B_size]
    have h1 := join_len 1000 (W.take k) (fun x hx => hl x (List.mem_of_mem_take hx))
    have h2 : (W.take k).length ≤ W.length := by simp; omega
    have h3 : (W.take k).length * (1000 + 1) ≤ 1000 * (1000 + 1) := Nat.mul_le_mul_right _ (by omega)
    omega
  have HX : Hid (∀ k, k < W.length → (B (W.getD k [])).size ≤ 1000) := fun k hk => by
    rw [Kn.B_size]; exact hl _ (by simp [List.getD, hk])
  have HS : Hid (∀ k, k < W.length → joinW (W.take (k + 1)) = if W.take k = [] then W.getD k [] else joinW (W.take k) ++ 32 :: W.getD k []) := fun k hk => by
    rw [take_snocW W k hk, join_snoc]
  have HC : Hid (∀ j, j < W.length → w.cell? ⟨g, j, none⟩ = some (.string (B (W.getD j [])))) := hc
  clear hl hc
  go_enter Tryd.func39, Tryd.ntmps39
  go_wp2
  go_loop [3, 4] (fun sv i => ∃ k : Nat, k ≤ W.length ∧ i = .int .i64 k ∧ sv = .string (B (joinW (W.take k)))) (fun _ i => W.length - (intOf i).toNat)
  case atStart => exact ⟨0, by omega, rfl, rfl⟩
  case round =>
    obtain ⟨k, hk, rfl, rfl⟩ := hrel
    by_cases hlt : k < W.length
    · have hlti : (k : Int) < (W.length : Int) := by omega
      have z1 := HL.out k
      have z2 := HX.out k hlt
      have ck := HC.out k hlt
      have hs := HS.out k hlt
      by_cases h0 : k = 0
      · subst h0
        have HE : Hid (joinW (W.take (0 + 1)) = W.getD 0 []) := by show _ = _; rw [hs]; simp
        have z0 : (B (joinW (W.take 0))).size = 0 := by rw [Kn.B_size]; rfl
        have HB : Hid (B (joinW (W.take 0)) ++ B (W.getD 0 []) = B (W.getD 0 [])) := by show _ = _; rw [Kn.B_app]; simp [joinW]
        clear hs
        generalize B (joinW (W.take 0)) = a at z0 z1 HB ⊢
        generalize W.getD 0 [] = x at z2 ck HE HB
        go_wp2
        go_round
        case rel => exact ⟨0 + 1, by omega, by go_num, by rw [HB.out, HE.out]⟩
        case measure => simp [intOf]; omega
      · have hk0 : (0 : Int) < (k : Int) := by omega
        have HE : Hid (joinW (W.take (k + 1)) = joinW (W.take k) ++ 32 :: W.getD k []) := by
          show _ = _
          rw [hs, if_neg]
          intro e
          rcases List.take_eq_nil_iff.1 e with q | q
          · exact h0 q
          · rw [q] at hlt; simp at hlt
        have HB : Hid (B (joinW (W.take k)) ++ { data := #[32] } ++ B (W.getD k []) = B (joinW (W.take k) ++ 32 :: W.getD k [])) := by
          show _ = _
          rw [show ({ data := #[32] } : ByteArray) = B [32] from rfl, Kn.B_app, Kn.B_app]; simp
        clear hs
        generalize joinW (W.take k) = a at z1 HE HB ⊢
        generalize W.getD k [] = x at z2 ck HE HB
        go_wp2
        go_round
        case rel => exact ⟨k + 1, by omega, by go_num, by rw [HB.out, HE.out]⟩
        case measure => simp [intOf]; omega
    · obtain rfl : k = W.length := by omega
      go_wp2
      go_ret
      exact ⟨rfl, rfl⟩

theorem box4 (w : World) (a b c d : Value) (t : TypeId) : Below w.heap.size w (w.alloc (.cells #[a, b, c, d] t)) ∧ (w.alloc (.cells #[a, b, c, d] t)).cell? ⟨w.heap.size, 0, none⟩ = some a ∧ (w.alloc (.cells #[a, b, c, d] t)).cell? ⟨w.heap.size, 1, none⟩ = some b ∧ (w.alloc (.cells #[a, b, c, d] t)).cell? ⟨w.heap.size, 2, none⟩ = some c ∧ (w.alloc (.cells #[a, b, c, d] t)).cell? ⟨w.heap.size, 3, none⟩ = some d ∧ w.heap.size < (w.alloc (.cells #[a, b, c, d] t)).heap.size :=
  ⟨(Below.refl _ _).alloc (Nat.le_refl _) _, by simp, by simp, by simp, by simp, by simp⟩

theorem rowS_below {base : Nat} {w w' : World} {v : Value} {n : Nat} {xs : List Value} (h : w.ownsRow base 9 1 v n xs) (hb : Below w.heap.size w w') : w'.ownsRow base 9 1 v n xs := by
  have hlt := World.ownsRow.lt h
  obtain ⟨h1, h2⟩ := h
  refine ⟨h1, ?_⟩
  rcases h2 with h2 | ⟨g, cap, cur, rfl, hB, hg, rest⟩
  · exact .inl h2
  · exact .inr ⟨g, cap, cur, rfl, hB, (hb.block g (hlt g rfl).2).trans hg, rest⟩
/-- a list of texts of the call's own, not empty: where it lies -/
theorem rowS_at {base : Nat} {w : World} {v : Value} {L : List (List UInt8)} (hL : L ≠ []) (h : w.ownsRow base 9 1 v L.length (L.map Kn.S)) : ∃ g cap, v = .slice (some ⟨g, 0, none⟩) L.length cap ∧ ∀ j, j < L.length → w.cell? ⟨g, j, none⟩ = some (.string (B (L.getD j []))) := by
  have h' := h
  obtain ⟨_, ⟨hv, hn⟩ | ⟨g, cap, cur, hv, _⟩⟩ := h'
  · exact absurd (List.length_eq_zero_iff.1 hn) hL
  · refine ⟨g, cap, hv, fun j hj => ?_⟩
    subst hv
    rw [World.ownsRow.cellAt h j (by omega)]
    simp [List.getD, hj, Kn.S]
theorem lit2 (W0 : World) (a4 : Array Value) (s : List UInt8) (key : ByteArray) : (((W0.alloc (.cells a4 9)).alloc (.cells #[.string (B s), .string key] 9)).drew).ownsRow W0.heap.size 9 1 (.slice (some ⟨W0.heap.size + 1, 0, none⟩) 2 2) [s, key.data.toList].length ([s, key.data.toList].map Kn.S) ∧ Below W0.heap.size W0 (((W0.alloc (.cells a4 9)).alloc (.cells #[.string (B s), .string key] 9)).drew) := by
  refine ⟨⟨rfl, .inr ⟨W0.heap.size + 1, 2, #[.string (B s), .string key], rfl, by omega, ?_, by simp, by unfold maxLen; omega, rfl, ?_⟩⟩, (((Below.refl _ _).alloc (Nat.le_refl _) _).alloc (by simp) _).drew⟩
  · have e : (W0.alloc (.cells a4 9)).heap.size = W0.heap.size + 1 := by simp
    show ((W0.alloc (.cells a4 9)).heap.push _)[W0.heap.size + 1]? = _
    rw [← e, Array.getElem?_push_size]
  · simp [Kn.S, Kn.B_data]
/-- one word more -/
theorem next_row {W0 V0 X1 V1 : World} {v v1 : Value} {o : Obj} {l : List (List UInt8)} {x : List UInt8} {k : Nat} (hk : l.length = k) (hO : V0.ownsRow W0.heap.size 9 1 v k (l.map Kn.S)) (hB : Below W0.heap.size W0 V0) (hb : Below V0.heap.size V0 X1) (hX : X1.ownsRow W0.heap.size 9 1 v k (l.map Kn.S))
    (h1 : V1.ownsRow W0.heap.size 9 1 v1 (k + 1) (l.map Kn.S ++ [.string (B x)])) (hg : (X1.alloc o).grownBy V1 v.ownBlock) : V1.ownsRow W0.heap.size 9 1 v1 (l ++ [x]).length ((l ++ [x]).map Kn.S) ∧ Below W0.heap.size W0 V1 := by
  subst hk
  have hBX : Below W0.heap.size W0 X1 := hB.trans (hb.mono hB.size)
  have := Kn.relS_put (w := W0) hBX.size hX hBX h1 hg
  exact ⟨this.1, this.2.1⟩
/-- a cell of an elder block stays -/
theorem old_cell {W0 V0 X1 V1 : World} {v u : Value} {o : Obj} {n b j : Nat} {xs : List Value} (hl : b < V0.heap.size) (hbl : b < W0.heap.size) (hO : V0.ownsRow W0.heap.size 9 1 v n xs) (hb : Below V0.heap.size V0 X1) (hg : (X1.alloc o).grownBy V1 v.ownBlock) (h : V0.cell? ⟨b, j, none⟩ = some u) : V1.cell? ⟨b, j, none⟩ = some u := by
  have hX : X1.cell? ⟨b, j, none⟩ = some u := (hb.cell (p := ⟨b, j, none⟩) hl).trans h
  have hlX : b < X1.heap.size := Nat.lt_of_lt_of_le hl hb.size
  have hA : (X1.alloc o).cell? ⟨b, j, none⟩ = some u := (World.cell?_alloc_lt _ _ _ hlX).trans hX
  refine World.grownBy.cell hg hA ?_
  intro e
  have := (World.ownsRow.lt hO b e.symm).1
  omega

def l1IntAt (n : Nat) : Prop := ∀ W : World, Calls Tryd.prog 38 #[.int .i64 (n : Int)] W fun e w' => e = .returned (.string (B (dec n))) ∧ Below W.heap.size W w'
theorem key_len {s : ByteArray} (h : keyB s = true) : s.data.toList.length ≤ 1000 := by
  unfold keyB at h
  simp only [Bool.and_eq_true, decide_eq_true_eq] at h
  have h2 := h.2.2
  have : s.data.toList.length = s.size := by simp
  omega
theorem decF_len (f n : Nat) : (Kn.decF f n).length ≤ f := by
  induction f generalizing n with
  | zero => simp [Kn.decF]
  | succ f ih =>
    rw [Kn.decF]
    split
    · simp
    · have := ih (n / 10); simp; omega
theorem dec_len (n : Nat) : (dec n).length ≤ 1000 := Nat.le_trans (decF_len 12 n) (by omega)

/-- HERE -/
theorem here : True := trivial

set_option maxHeartbeats 3200000 in
theorem l16Show2 (key : ByteArray) (v n : Nat) (w : World) (hkey : keyB key = true) (hv : v ≤ 99) (hn : n ≤ 99) :
    Calls Tryd.prog 27 #[.agg #[.int .i64 2, .string key, .int .i64 (v : Int), .int .i64 (n : Int)]] w fun e w' => e = .returned (.string (B (joinW [[99, 117, 116], key.data.toList]))) ∧ Below w.heap.size w w' := by
  obtain ⟨i0, hi, hz0, hz1, hz2⟩ := info_parts Kn.infoS
  have P0 : Hid (_) := box4 w (.int .i64 2) (.string key) (.int .i64 (v : Int)) (.int .i64 (n : Int)) 25
  have HKL : Hid (key.data.toList.length ≤ 1000) := key_len hkey
  have HV : Hid (l1IntAt v) := fun W => Kn.l1Int v W (by omega)
  have HN : Hid (l1IntAt n) := fun W => Kn.l1Int n W (by omega)
  clear hkey
  go_enter Tryd.func27, Tryd.ntmps27
  go_upto_region 1 with fail
  generalize w.alloc (.cells #[.int .i64 2, .string key, .int .i64 (v : Int), .int .i64 (n : Int)] 25) = W0 at P0 ⊢
  obtain ⟨B0, x0, x1, x2, x3, hl⟩ := P0
  generalize hbb : w.heap.size = b at B0 x0 x1 x2 x3 hl ⊢
  have HBB : Hid (w.heap.size = b) := hbb
  clear hbb
  have HP : Hid (_) := lit2 W0 #[.string { data := #[112, 117, 116] }, .string { data := #[99, 117, 116] }, .string { data := #[97, 100, 100] }, .string { data := #[105, 102] }] [99, 117, 116] key
  rw [show B [99, 117, 116] = { data := #[99, 117, 116] } from rfl] at HP
  go_region
  generalize ((W0.alloc (.cells #[.string { data := #[112, 117, 116] }, .string { data := #[99, 117, 116] }, .string { data := #[97, 100, 100] }, .string { data := #[105, 102] }] 9)).alloc (.cells #[.string { data := #[99, 117, 116] }, .string key] 9)).drew = V0 at HP ⊢
  obtain ⟨hO, hB⟩ := HP.out
  have y0 := (hB.cell (p := ⟨b, 0, none⟩) hl).trans x0
  have y2 := (hB.cell (p := ⟨b, 2, none⟩) hl).trans x2
  have y3 := (hB.cell (p := ⟨b, 3, none⟩) hl).trans x3
  have hlV : b < V0.heap.size := Nat.lt_of_lt_of_le hl hB.size
  have hB0 : Below W0.heap.size W0 V0 := hB
  have HLO : Hid (∀ V : World, Below W0.heap.size W0 V → Below b w V) := fun V hV => B0.trans (hV.mono (Nat.le_of_lt hl))
  have hbl : b < W0.heap.size := hl
  clear x0 x1 x2 x3 HP hB B0
  generalize W0.heap.size + 1 = q0 at hO ⊢
  generalize hw2 : [[99, 117, 116], key.data.toList] = WD at hO
  have hwl : WD.length = 2 := by rw [← hw2]; rfl
  have HWD : Hid (WD = [[99, 117, 116], key.data.toList]) := hw2.symm
  have HWL : Hid (∀ x ∈ WD, x.length ≤ 1000) := fun x hx => by
    rw [HWD.out] at hx
    simp only [List.mem_cons, List.not_mem_nil, or_false] at hx
    rcases hx with rfl | rfl
    · simp
    · exact HKL.out
  clear hw2
  rw [hwl] at hO
  rw [← hwl] at hO
  obtain ⟨g, cp, hev, hcl⟩ := rowS_at (by intro e; rw [e] at hwl; simp at hwl) hO
  rw [hwl] at hev
  injection hev with e1 _ e3
  injection e1 with e1
  injection e1 with e1
  subst e1 e3
  have hcall := l1Words q0 2 WD _ (by omega) HWL.out hcl
  rw [hwl, HWD.out] at hcall
  clear hcl hO y2 y3 HWL
  generalize hjw : joinW [[99, 117, 116], key.data.toList] = jw at hcall
  have HJW : Hid (joinW [[99, 117, 116], key.data.toList] = jw) := hjw
  have HFIN : Hid (_) := HLO.out _ hB0
  clear hjw
  go_wp2_with fail
  refine hcall.mono ?_
  rintro e w' ⟨rfl, rfl⟩
  clear hcall
  go_wp2
  go_ret
  refine ⟨by rw [HJW.out]; rfl, ?_⟩
  rw [HBB.out]
  exact HFIN.out

set_option maxHeartbeats 3200000 in
theorem l16Show1 (key : ByteArray) (v n : Nat) (w : World) (hkey : keyB key = true) (hv : v ≤ 99) (hn : n ≤ 99) :
    Calls Tryd.prog 27 #[.agg #[.int .i64 1, .string key, .int .i64 (v : Int), .int .i64 (n : Int)]] w fun e w' => e = .returned (.string (B (joinW [[112, 117, 116], key.data.toList, dec v]))) ∧ Below w.heap.size w w' := by
  obtain ⟨i0, hi, hz0, hz1, hz2⟩ := info_parts Kn.infoS
  have P0 : Hid (_) := box4 w (.int .i64 1) (.string key) (.int .i64 (v : Int)) (.int .i64 (n : Int)) 25
  have HKL : Hid (key.data.toList.length ≤ 1000) := key_len hkey
  have HV : Hid (l1IntAt v) := fun W => Kn.l1Int v W (by omega)
  have HN : Hid (l1IntAt n) := fun W => Kn.l1Int n W (by omega)
  clear hkey
  go_enter Tryd.func27, Tryd.ntmps27
  go_upto_region 1 with fail
  generalize w.alloc (.cells #[.int .i64 1, .string key, .int .i64 (v : Int), .int .i64 (n : Int)] 25) = W0 at P0 ⊢
  obtain ⟨B0, x0, x1, x2, x3, hl⟩ := P0
  generalize hbb : w.heap.size = b at B0 x0 x1 x2 x3 hl ⊢
  have HBB : Hid (w.heap.size = b) := hbb
  clear hbb
  have HP : Hid (_) := lit2 W0 #[.string { data := #[112, 117, 116] }, .string { data := #[99, 117, 116] }, .string { data := #[97, 100, 100] }, .string { data := #[105, 102] }] [112, 117, 116] key
  rw [show B [112, 117, 116] = { data := #[112, 117, 116] } from rfl] at HP
  go_region
  generalize ((W0.alloc (.cells #[.string { data := #[112, 117, 116] }, .string { data := #[99, 117, 116] }, .string { data := #[97, 100, 100] }, .string { data := #[105, 102] }] 9)).alloc (.cells #[.string { data := #[112, 117, 116] }, .string key] 9)).drew = V0 at HP ⊢
  obtain ⟨hO, hB⟩ := HP.out
  have y0 := (hB.cell (p := ⟨b, 0, none⟩) hl).trans x0
  have y2 := (hB.cell (p := ⟨b, 2, none⟩) hl).trans x2
  have y3 := (hB.cell (p := ⟨b, 3, none⟩) hl).trans x3
  have hlV : b < V0.heap.size := Nat.lt_of_lt_of_le hl hB.size
  have hB0 : Below W0.heap.size W0 V0 := hB
  have HLO : Hid (∀ V : World, Below W0.heap.size W0 V → Below b w V) := fun V hV => B0.trans (hV.mono (Nat.le_of_lt hl))
  have hbl : b < W0.heap.size := hl
  clear x0 x1 x2 x3 HP hB B0
  generalize W0.heap.size + 1 = q0 at hO ⊢
  generalize hw2 : [[112, 117, 116], key.data.toList] = WD at hO
  have hwl : WD.length = 2 := by rw [← hw2]; rfl
  have HWD : Hid (WD = [[112, 117, 116], key.data.toList]) := hw2.symm
  have HWL : Hid (∀ x ∈ WD, x.length ≤ 1000) := fun x hx => by
    rw [HWD.out] at hx
    simp only [List.mem_cons, List.not_mem_nil, or_false] at hx
    rcases hx with rfl | rfl
    · simp
    · exact HKL.out
  clear hw2
  rw [hwl] at hO
  go_wp2_with (first | (go_at_call 38; refine (HV.out _).mono ?_; rintro e X1 ⟨rfl, hb1⟩; have own1 := rowS_below hO hb1) | (at_builtin; refine wpList_append_own _ rfl _ _ 46 rfl W0.heap.size 9 i0 (.string ⟨#[]⟩) 1 16 Tryd.underlying46 hi hz0 hz1 hz2 rfl (by decide) _ 2 _ (by first | rfl | simp [Act.eval]) (own1.alloc _) ⟨X1.heap.size, 0, none⟩ 1 1 [.string (B (dec v))] (by first | rfl | simp [Act.eval]) rfl ?c1 ?c2 ?c3 ?c4 ?c5 ?_))
  case c1 =>
    intro j u hj
    match j, hj with
    | 0, hj => simp at hj; subst hj; simp [Addr.add]
  case c2 => intro u hu; simp at hu; subst hu; rfl
  case c3 => unfold maxLen; simp
  case c4 => simp
  case c5 => have := hb1.size; have := hB0.size; simp; omega
  intro v1 V1 hown1 hgrow1 _
  have HR1 : Hid (_) := next_row hwl hO hB0 hb1 own1 hown1 hgrow1
  have z0 := old_cell hlV hbl hO hb1 hgrow1 y0
  have z3 := old_cell hlV hbl hO hb1 hgrow1 y3
  have hlV' : b < V1.heap.size := Nat.lt_of_lt_of_le hlV (Nat.le_trans hb1.size (by have := hgrow1.size; simp at this; omega))
  obtain ⟨hO', hB'⟩ := HR1.out
  have HWL' : Hid (∀ x ∈ WD ++ [dec v], x.length ≤ 1000) := fun x hx => by
    rcases List.mem_append.1 hx with h | h
    · exact HWL.out x h
    · simp at h; subst h; exact dec_len v
  have HWD' : Hid (WD ++ [dec v] = [[112, 117, 116], key.data.toList, dec v]) := by show _ = _; rw [HWD.out]; rfl
  have hwl' : (WD ++ [dec v]).length = 3 := by simp [hwl]
  clear hO hown1 hgrow1 own1 hb1 HR1 y0 y2 y3 hB0 hlV HWL HWD hwl HV
  rw [hwl'] at hO'
  generalize WD ++ [dec v] = WD at hO' HWL' HWD' hwl'
  rename WD.length = 3 => hwl
  rename Hid (WD = _) => HWD
  rename Hid (∀ x ∈ WD, _) => HWL
  have hO := hO'
  have hB0 := hB'
  have hlV := hlV'
  clear hO' hB' hlV'
  have y0 := z0
  have y3 := z3
  have y2 := z0
  clear z0 z3
  rw [← hwl] at hO
  obtain ⟨g, cp, hev, hcl⟩ := rowS_at (by intro e; rw [e] at hwl; simp at hwl) hO
  rw [hwl] at hev
  subst hev
  have hcall := l1Words g cp WD _ (by omega) HWL.out hcl
  rw [hwl, HWD.out] at hcall
  clear hcl hO y2 y3 HWL
  generalize hjw : joinW [[112, 117, 116], key.data.toList, dec v] = jw at hcall
  have HJW : Hid (joinW [[112, 117, 116], key.data.toList, dec v] = jw) := hjw
  have HFIN : Hid (_) := HLO.out _ hB0
  clear hjw
  go_wp2_with fail
  refine hcall.mono ?_
  rintro e w' ⟨rfl, rfl⟩
  clear hcall
  go_wp2
  go_ret
  refine ⟨by rw [HJW.out]; rfl, ?_⟩
  rw [HBB.out]
  exact HFIN.out

set_option maxHeartbeats 3200000 in
theorem l16Show3 (key : ByteArray) (v n : Nat) (w : World) (hkey : keyB key = true) (hv : v ≤ 99) (hn : n ≤ 99) :
    Calls Tryd.prog 27 #[.agg #[.int .i64 3, .string key, .int .i64 (v : Int), .int .i64 (n : Int)]] w fun e w' => e = .returned (.string (B (joinW [[97, 100, 100], key.data.toList, dec v]))) ∧ Below w.heap.size w w' := by
  obtain ⟨i0, hi, hz0, hz1, hz2⟩ := info_parts Kn.infoS
  have P0 : Hid (_) := box4 w (.int .i64 3) (.string key) (.int .i64 (v : Int)) (.int .i64 (n : Int)) 25
  have HKL : Hid (key.data.toList.length ≤ 1000) := key_len hkey
  have HV : Hid (l1IntAt v) := fun W => Kn.l1Int v W (by omega)
  have HN : Hid (l1IntAt n) := fun W => Kn.l1Int n W (by omega)
  clear hkey
  go_enter Tryd.func27, Tryd.ntmps27
  go_upto_region 1 with fail
  generalize w.alloc (.cells #[.int .i64 3, .string key, .int .i64 (v : Int), .int .i64 (n : Int)] 25) = W0 at P0 ⊢
  obtain ⟨B0, x0, x1, x2, x3, hl⟩ := P0
  generalize hbb : w.heap.size = b at B0 x0 x1 x2 x3 hl ⊢
  have HBB : Hid (w.heap.size = b) := hbb
  clear hbb
  have HP : Hid (_) := lit2 W0 #[.string { data := #[112, 117, 116] }, .string { data := #[99, 117, 116] }, .string { data := #[97, 100, 100] }, .string { data := #[105, 102] }] [97, 100, 100] key
  rw [show B [97, 100, 100] = { data := #[97, 100, 100] } from rfl] at HP
  go_region
  generalize ((W0.alloc (.cells #[.string { data := #[112, 117, 116] }, .string { data := #[99, 117, 116] }, .string { data := #[97, 100, 100] }, .string { data := #[105, 102] }] 9)).alloc (.cells #[.string { data := #[97, 100, 100] }, .string key] 9)).drew = V0 at HP ⊢
  obtain ⟨hO, hB⟩ := HP.out
  have y0 := (hB.cell (p := ⟨b, 0, none⟩) hl).trans x0
  have y2 := (hB.cell (p := ⟨b, 2, none⟩) hl).trans x2
  have y3 := (hB.cell (p := ⟨b, 3, none⟩) hl).trans x3
  have hlV : b < V0.heap.size := Nat.lt_of_lt_of_le hl hB.size
  have hB0 : Below W0.heap.size W0 V0 := hB
  have HLO : Hid (∀ V : World, Below W0.heap.size W0 V → Below b w V) := fun V hV => B0.trans (hV.mono (Nat.le_of_lt hl))
  have hbl : b < W0.heap.size := hl
  clear x0 x1 x2 x3 HP hB B0
  generalize W0.heap.size + 1 = q0 at hO ⊢
  generalize hw2 : [[97, 100, 100], key.data.toList] = WD at hO
  have hwl : WD.length = 2 := by rw [← hw2]; rfl
  have HWD : Hid (WD = [[97, 100, 100], key.data.toList]) := hw2.symm
  have HWL : Hid (∀ x ∈ WD, x.length ≤ 1000) := fun x hx => by
    rw [HWD.out] at hx
    simp only [List.mem_cons, List.not_mem_nil, or_false] at hx
    rcases hx with rfl | rfl
    · simp
    · exact HKL.out
  clear hw2
  rw [hwl] at hO
  go_wp2_with (first | (go_at_call 38; refine (HV.out _).mono ?_; rintro e X1 ⟨rfl, hb1⟩; have own1 := rowS_below hO hb1) | (at_builtin; refine wpList_append_own _ rfl _ _ 46 rfl W0.heap.size 9 i0 (.string ⟨#[]⟩) 1 16 Tryd.underlying46 hi hz0 hz1 hz2 rfl (by decide) _ 2 _ (by first | rfl | simp [Act.eval]) (own1.alloc _) ⟨X1.heap.size, 0, none⟩ 1 1 [.string (B (dec v))] (by first | rfl | simp [Act.eval]) rfl ?c1 ?c2 ?c3 ?c4 ?c5 ?_))
  case c1 =>
    intro j u hj
    match j, hj with
    | 0, hj => simp at hj; subst hj; simp [Addr.add]
  case c2 => intro u hu; simp at hu; subst hu; rfl
  case c3 => unfold maxLen; simp
  case c4 => simp
  case c5 => have := hb1.size; have := hB0.size; simp; omega
  intro v1 V1 hown1 hgrow1 _
  have HR1 : Hid (_) := next_row hwl hO hB0 hb1 own1 hown1 hgrow1
  have z0 := old_cell hlV hbl hO hb1 hgrow1 y0
  have z3 := old_cell hlV hbl hO hb1 hgrow1 y3
  have hlV' : b < V1.heap.size := Nat.lt_of_lt_of_le hlV (Nat.le_trans hb1.size (by have := hgrow1.size; simp at this; omega))
  obtain ⟨hO', hB'⟩ := HR1.out
  have HWL' : Hid (∀ x ∈ WD ++ [dec v], x.length ≤ 1000) := fun x hx => by
    rcases List.mem_append.1 hx with h | h
    · exact HWL.out x h
    · simp at h; subst h; exact dec_len v
  have HWD' : Hid (WD ++ [dec v] = [[97, 100, 100], key.data.toList, dec v]) := by show _ = _; rw [HWD.out]; rfl
  have hwl' : (WD ++ [dec v]).length = 3 := by simp [hwl]
  clear hO hown1 hgrow1 own1 hb1 HR1 y0 y2 y3 hB0 hlV HWL HWD hwl HV
  rw [hwl'] at hO'
  generalize WD ++ [dec v] = WD at hO' HWL' HWD' hwl'
  rename WD.length = 3 => hwl
  rename Hid (WD = _) => HWD
  rename Hid (∀ x ∈ WD, _) => HWL
  have hO := hO'
  have hB0 := hB'
  have hlV := hlV'
  clear hO' hB' hlV'
  have y0 := z0
  have y3 := z3
  have y2 := z0
  clear z0 z3
  rw [← hwl] at hO
  obtain ⟨g, cp, hev, hcl⟩ := rowS_at (by intro e; rw [e] at hwl; simp at hwl) hO
  rw [hwl] at hev
  subst hev
  have hcall := l1Words g cp WD _ (by omega) HWL.out hcl
  rw [hwl, HWD.out] at hcall
  clear hcl hO y2 y3 HWL
  generalize hjw : joinW [[97, 100, 100], key.data.toList, dec v] = jw at hcall
  have HJW : Hid (joinW [[97, 100, 100], key.data.toList, dec v] = jw) := hjw
  have HFIN : Hid (_) := HLO.out _ hB0
  clear hjw
  go_wp2_with fail
  refine hcall.mono ?_
  rintro e w' ⟨rfl, rfl⟩
  clear hcall
  go_wp2
  go_ret
  refine ⟨by rw [HJW.out]; rfl, ?_⟩
  rw [HBB.out]
  exact HFIN.out

set_option maxHeartbeats 3200000 in
theorem l16Show4 (key : ByteArray) (v n : Nat) (w : World) (hkey : keyB key = true) (hv : v ≤ 99) (hn : n ≤ 99) :
    Calls Tryd.prog 27 #[.agg #[.int .i64 4, .string key, .int .i64 (v : Int), .int .i64 (n : Int)]] w fun e w' => e = .returned (.string (B (joinW [[105, 102], key.data.toList, dec v, dec n]))) ∧ Below w.heap.size w w' := by
  obtain ⟨i0, hi, hz0, hz1, hz2⟩ := info_parts Kn.infoS
  have P0 : Hid (_) := box4 w (.int .i64 4) (.string key) (.int .i64 (v : Int)) (.int .i64 (n : Int)) 25
  have HKL : Hid (key.data.toList.length ≤ 1000) := key_len hkey
  have HV : Hid (l1IntAt v) := fun W => Kn.l1Int v W (by omega)
  have HN : Hid (l1IntAt n) := fun W => Kn.l1Int n W (by omega)
  clear hkey
  go_enter Tryd.func27, Tryd.ntmps27
  go_upto_region 1 with fail
  generalize w.alloc (.cells #[.int .i64 4, .string key, .int .i64 (v : Int), .int .i64 (n : Int)] 25) = W0 at P0 ⊢
  obtain ⟨B0, x0, x1, x2, x3, hl⟩ := P0
  generalize hbb : w.heap.size = b at B0 x0 x1 x2 x3 hl ⊢
  have HBB : Hid (w.heap.size = b) := hbb
  clear hbb
  have HP : Hid (_) := lit2 W0 #[.string { data := #[112, 117, 116] }, .string { data := #[99, 117, 116] }, .string { data := #[97, 100, 100] }, .string { data := #[105, 102] }] [105, 102] key
  rw [show B [105, 102] = { data := #[105, 102] } from rfl] at HP
  go_region
  generalize ((W0.alloc (.cells #[.string { data := #[112, 117, 116] }, .string { data := #[99, 117, 116] }, .string { data := #[97, 100, 100] }, .string { data := #[105, 102] }] 9)).alloc (.cells #[.string { data := #[105, 102] }, .string key] 9)).drew = V0 at HP ⊢
  obtain ⟨hO, hB⟩ := HP.out
  have y0 := (hB.cell (p := ⟨b, 0, none⟩) hl).trans x0
  have y2 := (hB.cell (p := ⟨b, 2, none⟩) hl).trans x2
  have y3 := (hB.cell (p := ⟨b, 3, none⟩) hl).trans x3
  have hlV : b < V0.heap.size := Nat.lt_of_lt_of_le hl hB.size
  have hB0 : Below W0.heap.size W0 V0 := hB
  have HLO : Hid (∀ V : World, Below W0.heap.size W0 V → Below b w V) := fun V hV => B0.trans (hV.mono (Nat.le_of_lt hl))
  have hbl : b < W0.heap.size := hl
  clear x0 x1 x2 x3 HP hB B0
  generalize W0.heap.size + 1 = q0 at hO ⊢
  generalize hw2 : [[105, 102], key.data.toList] = WD at hO
  have hwl : WD.length = 2 := by rw [← hw2]; rfl
  have HWD : Hid (WD = [[105, 102], key.data.toList]) := hw2.symm
  have HWL : Hid (∀ x ∈ WD, x.length ≤ 1000) := fun x hx => by
    rw [HWD.out] at hx
    simp only [List.mem_cons, List.not_mem_nil, or_false] at hx
    rcases hx with rfl | rfl
    · simp
    · exact HKL.out
  clear hw2
  rw [hwl] at hO
  go_wp2_with (first | (go_at_call 38; refine (HV.out _).mono ?_; rintro e X1 ⟨rfl, hb1⟩; have own1 := rowS_below hO hb1) | (at_builtin; refine wpList_append_own _ rfl _ _ 46 rfl W0.heap.size 9 i0 (.string ⟨#[]⟩) 1 16 Tryd.underlying46 hi hz0 hz1 hz2 rfl (by decide) _ 2 _ (by first | rfl | simp [Act.eval]) (own1.alloc _) ⟨X1.heap.size, 0, none⟩ 1 1 [.string (B (dec v))] (by first | rfl | simp [Act.eval]) rfl ?c1 ?c2 ?c3 ?c4 ?c5 ?_))
  case c1 =>
    intro j u hj
    match j, hj with
    | 0, hj => simp at hj; subst hj; simp [Addr.add]
  case c2 => intro u hu; simp at hu; subst hu; rfl
  case c3 => unfold maxLen; simp
  case c4 => simp
  case c5 => have := hb1.size; have := hB0.size; simp; omega
  intro v1 V1 hown1 hgrow1 _
  have HR1 : Hid (_) := next_row hwl hO hB0 hb1 own1 hown1 hgrow1
  have z0 := old_cell hlV hbl hO hb1 hgrow1 y0
  have z3 := old_cell hlV hbl hO hb1 hgrow1 y3
  have hlV' : b < V1.heap.size := Nat.lt_of_lt_of_le hlV (Nat.le_trans hb1.size (by have := hgrow1.size; simp at this; omega))
  obtain ⟨hO', hB'⟩ := HR1.out
  have HWL' : Hid (∀ x ∈ WD ++ [dec v], x.length ≤ 1000) := fun x hx => by
    rcases List.mem_append.1 hx with h | h
    · exact HWL.out x h
    · simp at h; subst h; exact dec_len v
  have HWD' : Hid (WD ++ [dec v] = [[105, 102], key.data.toList, dec v]) := by show _ = _; rw [HWD.out]; rfl
  have hwl' : (WD ++ [dec v]).length = 3 := by simp [hwl]
  clear hO hown1 hgrow1 own1 hb1 HR1 y0 y2 y3 hB0 hlV HWL HWD hwl HV
  rw [hwl'] at hO'
  generalize WD ++ [dec v] = WD at hO' HWL' HWD' hwl'
  rename WD.length = 3 => hwl
  rename Hid (WD = _) => HWD
  rename Hid (∀ x ∈ WD, _) => HWL
  have hO := hO'
  have hB0 := hB'
  have hlV := hlV'
  clear hO' hB' hlV'
  have y0 := z0
  have y3 := z3
  have y2 := z0
  clear z0 z3
  go_wp2_with (first | (go_at_call 38; refine (HN.out _).mono ?_; rintro e X2 ⟨rfl, hb2⟩; have own2 := rowS_below hO hb2) | (at_builtin; refine wpList_append_own _ rfl _ _ 46 rfl W0.heap.size 9 i0 (.string ⟨#[]⟩) 1 16 Tryd.underlying46 hi hz0 hz1 hz2 rfl (by decide) _ 3 _ (by first | rfl | simp [Act.eval]) (own2.alloc _) ⟨X2.heap.size, 0, none⟩ 1 1 [.string (B (dec n))] (by first | rfl | simp [Act.eval]) rfl ?c1 ?c2 ?c3 ?c4 ?c5 ?_))
  case c1 =>
    intro j u hj
    match j, hj with
    | 0, hj => simp at hj; subst hj; simp [Addr.add]
  case c2 => intro u hu; simp at hu; subst hu; rfl
  case c3 => unfold maxLen; simp
  case c4 => simp
  case c5 => have := hb2.size; have := hB0.size; simp; omega
  intro v2 V2 hown2 hgrow2 _
  have HR2 : Hid (_) := next_row hwl hO hB0 hb2 own2 hown2 hgrow2
  have z0 := old_cell hlV hbl hO hb2 hgrow2 y0
  have z3 := old_cell hlV hbl hO hb2 hgrow2 y3
  have hlV' : b < V2.heap.size := Nat.lt_of_lt_of_le hlV (Nat.le_trans hb2.size (by have := hgrow2.size; simp at this; omega))
  obtain ⟨hO', hB'⟩ := HR2.out
  have HWL' : Hid (∀ x ∈ WD ++ [dec n], x.length ≤ 1000) := fun x hx => by
    rcases List.mem_append.1 hx with h | h
    · exact HWL.out x h
    · simp at h; subst h; exact dec_len n
  have HWD' : Hid (WD ++ [dec n] = [[105, 102], key.data.toList, dec v, dec n]) := by show _ = _; rw [HWD.out]; rfl
  have hwl' : (WD ++ [dec n]).length = 4 := by simp [hwl]
  clear hO hown2 hgrow2 own2 hb2 HR2 y0 y2 y3 hB0 hlV HWL HWD hwl HN
  rw [hwl'] at hO'
  generalize WD ++ [dec n] = WD at hO' HWL' HWD' hwl'
  rename WD.length = 4 => hwl
  rename Hid (WD = _) => HWD
  rename Hid (∀ x ∈ WD, _) => HWL
  have hO := hO'
  have hB0 := hB'
  have hlV := hlV'
  clear hO' hB' hlV'
  have y0 := z0
  have y3 := z3
  have y2 := z0
  clear z0 z3
  rw [← hwl] at hO
  obtain ⟨g, cp, hev, hcl⟩ := rowS_at (by intro e; rw [e] at hwl; simp at hwl) hO
  rw [hwl] at hev
  subst hev
  have hcall := l1Words g cp WD _ (by omega) HWL.out hcl
  rw [hwl, HWD.out] at hcall
  clear hcl hO y2 y3 HWL
  generalize hjw : joinW [[105, 102], key.data.toList, dec v, dec n] = jw at hcall
  have HJW : Hid (joinW [[105, 102], key.data.toList, dec v, dec n] = jw) := hjw
  have HFIN : Hid (_) := HLO.out _ hB0
  clear hjw
  go_wp2_with fail
  refine hcall.mono ?_
  rintro e w' ⟨rfl, rfl⟩
  clear hcall
  go_wp2
  go_ret
  refine ⟨by rw [HJW.out]; rfl, ?_⟩
  rw [HBB.out]
  exact HFIN.out

end De
end Go.Proofs.YtghpmhfhenndiaaDoor
