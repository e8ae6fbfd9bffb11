/-
  What the model's ShowKnot answers: the text that the plain mathematics says, for every right knot.
-/
import Derived.Test.YtiopckkcdmeagaaGreatDoorKnotS
import Derived.Test.YtiopckkcdmeagaaGreatDoorLike
import Derived.Deep.RegionWith
import Derived.Deep.DeepCutAuto
import Derived.WalkSmall
namespace Go.Proofs.YtiopckkcdmeagaaGreatDoor
open Go.RowKit
set_option maxRecDepth 100000
namespace Kn

/-- the members written, a blank behind each -/
def showM : List Int → List UInt8
  | [] => []
  | m :: l => dec m.toNat ++ (32 :: showM l)
theorem showM_app (a b : List Int) : showM (a ++ b) = showM a ++ showM b := by
  induction a with
  | nil => rfl
  | cons m l ih => simp [showM, ih]

/-- what stands ahead of the members -/
def showH (h r : Int) : List UInt8 := dec h.toNat ++ (32 :: (dec r.toNat ++ [32]))
/-- a knot written -/
def showK (k : K) : List UInt8 := showH k.hand k.round ++ (showM (Bit.memTo k.frm 60) ++ (58 :: if k.word.size = 0 then [] else 32 :: k.word.data.toList))

theorem decF_len (f n : Nat) : (decF f n).length ≤ f := by
  induction f generalizing n with
  | zero => simp [decF]
  | succ f ih =>
    rw [decF]
    split
    · simp
    · have := ih (n / 10); simp; omega
theorem dec_len (n : Nat) : (dec n).length ≤ 12 := decF_len 12 n

theorem memTo_get (s : Int) (k : Nat) (hk : k < (Bit.memTo s 60).length) : ∃ j : Nat, j < 60 ∧ (Bit.memTo s 60).getD k 0 = (j : Int) := by
  have hm : (Bit.memTo s 60)[k] ∈ Bit.memTo s 60 := List.getElem_mem hk
  obtain ⟨j, hj, he, _⟩ := (Bit.mem_memTo s 60 _).1 hm
  exact ⟨j, hj, by simp [hk, he]⟩

theorem c32 : ({ data := #[32] } : ByteArray) = B [32] := rfl
theorem c58 : ({ data := #[58] } : ByteArray) = B [58] := rfl

theorem showH_eq (h r : Nat) : B (dec h) ++ { data := #[32] } ++ B (dec r) ++ { data := #[32] } = B (showH (h : Int) (r : Int)) := by
  rw [c32, B_app, B_app, B_app]; simp [showH]

theorem showH_len (h r : Int) : (showH h r).length ≤ 26 := by
  have h1 := dec_len h.toNat
  have h2 := dec_len r.toNat
  simp [showH]; omega
theorem showM_len (l : List Int) : (showM l).length ≤ 13 * l.length := by
  induction l with
  | nil => simp [showM]
  | cons m l ih => have := dec_len m.toNat; simp [showM]; omega

set_option maxHeartbeats 3200000 in
theorem l2Show (h r : Nat) (f : Int) (s : ByteArray) (w : World) (hh : h < 10000000000) (hr : r < 10000000000) (h0 : 0 ≤ f) (h1 : f < 1152921504606846976) (hs : s.size ≤ 1073741824) :
    Calls Tryz.prog 27 #[.agg #[.int .i64 (h : Int), .int .i64 (r : Int), .int .i64 f, .string s]] w fun e w' =>
    e = .returned (.string (B (showK ⟨h, r, f, s⟩))) ∧ Below w.heap.size w w' := by
  have hsz : ∀ x : Nat, (B (dec x)).size ≤ 12 := fun x => by rw [B_size]; exact dec_len x
  have hz1 := hsz h
  have hz2 := hsz r
  clear hsz
  have C : ∀ o : Array Value, ∀ t : TypeId, Below w.heap.size w (w.alloc (.cells o t)) := fun o t => (Below.refl _ _).alloc (Nat.le_refl _) _
  have B0 := C #[.int .i64 (h : Int), .int .i64 (r : Int), .int .i64 f, .string s] 25
  have S0 : w.heap.size < (w.alloc (.cells #[.int .i64 (h : Int), .int .i64 (r : Int), .int .i64 f, .string s] 25)).heap.size := by simp
  have c0 : (w.alloc (.cells #[.int .i64 (h : Int), .int .i64 (r : Int), .int .i64 f, .string s] 25)).cell? ⟨w.heap.size, 0, none⟩ = some (.int .i64 (h : Int)) := by simp
  have c1 : (w.alloc (.cells #[.int .i64 (h : Int), .int .i64 (r : Int), .int .i64 f, .string s] 25)).cell? ⟨w.heap.size, 1, none⟩ = some (.int .i64 (r : Int)) := by simp
  have c2 : (w.alloc (.cells #[.int .i64 (h : Int), .int .i64 (r : Int), .int .i64 f, .string s] 25)).cell? ⟨w.heap.size, 2, none⟩ = some (.int .i64 f) := by simp
  have c3 : (w.alloc (.cells #[.int .i64 (h : Int), .int .i64 (r : Int), .int .i64 f, .string s] 25)).cell? ⟨w.heap.size, 3, none⟩ = some (.string s) := by simp
  clear C
  have P0 : Hid (Below w.heap.size w (w.alloc (.cells #[.int .i64 (h : Int), .int .i64 (r : Int), .int .i64 f, .string s] 25)) ∧ _ ∧ _ ∧ _ ∧ _ ∧ _) := ⟨B0, S0, c0, c1, c2, c3⟩
  clear B0 S0 c0 c1 c2 c3
  go_enter Tryz.func27, Tryz.ntmps27
  go_wp2_with fail
  generalize w.alloc (.cells #[.int .i64 (h : Int), .int .i64 (r : Int), .int .i64 f, .string s] 25) = w0 at P0 ⊢
  obtain ⟨B0, S0, c0, c1, c2, c3⟩ := P0
  generalize hb : w.heap.size = b at *
  go_cut [3] (fun t wx => t = .string (B (showH (h : Int) (r : Int))) ∧ Below w0.heap.size w0 wx)
  case first =>
    go_region_with (first | (go_at_call_of 47 (Value.int IntKind.i64 (h : Int)); refine (l1Int h _ hh).mono ?_; rintro e w1 ⟨rfl, hb1⟩; have c1' := (hb1.cell (p := ⟨b, 1, none⟩) (by exact S0)).trans c1) | (go_at_call_of 47 (Value.int IntKind.i64 (r : Int)); refine (l1Int r _ hr).mono ?_; rintro e w2 ⟨rfl, hb2⟩))
    all_goals
      go_wp2_with fail
      go_meet
      case rel => exact ⟨by rw [← showH_eq], (Below.refl _ w0).drew.trans (hb1.trans (hb2.mono hb1.size))⟩
  case rest =>
    obtain ⟨rfl, hbc⟩ := hcut
    have c2' := (hbc.cell (p := ⟨b, 2, none⟩) S0).trans c2
    have c3' := (hbc.cell (p := ⟨b, 3, none⟩) S0).trans c3
    have Bc := B0.trans (hbc.mono (Nat.le_of_lt S0))
    have Sc : b < wc.heap.size := Nat.lt_of_lt_of_le S0 hbc.size
    clear c0 c1 c2 c3 hbc B0 S0 hz1 hz2
    go_wp2_with fail
    refine (Memb.l1Members' f _ h0 h1).mono ?_
    rintro e w3 ⟨ao, ca, rfl, hown, hb3⟩
    have c3 := (hb3.cell (p := ⟨b, 3, none⟩) Sc).trans c3'
    have B3 := Bc.trans (hb3.mono (Nat.le_of_lt Sc))
    have S3 : b < w3.heap.size := Nat.lt_of_lt_of_le Sc hb3.size
    have hlen := Bit.memTo_le f 60
    have hH := showH_len (h : Int) (r : Int)
    clear c2' c3' hb3 Bc Sc
    obtain ⟨n, hn⟩ : ∃ n, n = (Bit.memTo f 60).length := ⟨_, rfl⟩
    have HN : Hid (n = (Bit.memTo f 60).length) := hn
    rw [← hn] at hlen ⊢
    clear hn
    go_wp2_with fail
    go_loopw [3, 5] (fun t i wr => ∃ k : Nat, k ≤ n ∧ i = .int .i64 k ∧ t = .string (B (showH (h : Int) (r : Int) ++ showM ((Bit.memTo f 60).take k))) ∧ Below w3.heap.size w3 wr) (fun _ i _ => n - (intOf i).toNat)
    case atStart => exact ⟨0, by omega, rfl, by simp [showM], Below.refl _ _⟩
    case round =>
      obtain ⟨k, hk, rfl, rfl, hbr⟩ := hrel
      have hM := showM_len ((Bit.memTo f 60).take k)
      have hM2 : ((Bit.memTo f 60).take k).length ≤ k := List.length_take_le _ _
      have hsz : (B (showH (h : Int) (r : Int) ++ showM ((Bit.memTo f 60).take k))).size ≤ 1000 := by
        rw [B_size, List.length_append]; omega
      by_cases hlt : k < n
      · have hkl : k < (Bit.memTo f 60).length := by rw [← HN.out]; exact hlt
        obtain ⟨j, hj, hje⟩ := memTo_get f k hkl
        obtain ⟨g, rfl, hcell⟩ : ∃ g, ao = some ⟨g, 0, none⟩ ∧ wr.cell? ⟨g, k, none⟩ = some (.int .i64 (j : Int)) := by
          rcases Lst.own_rd (Lst.own_below hown hbr) with he | ⟨g, hg, hc⟩
          · exfalso; rw [he] at hkl; simp at hkl
          · exact ⟨g, hg, by rw [hc k hkl, hje]⟩
        have HT : Hid (showM ((Bit.memTo f 60).take (k + 1)) = showM ((Bit.memTo f 60).take k) ++ (dec j ++ [32])) := by
          show _ = _
          have e : (Bit.memTo f 60)[k] = (j : Int) := by simpa [hkl] using hje
          rw [List.take_succ_eq_append_getElem hkl, showM_app, e]
          simp [showM]
        have hj12 : (B (dec j)).size ≤ 12 := by rw [B_size]; exact dec_len j
        clear hje hM hM2
        generalize hS : showH (h : Int) (r : Int) ++ showM ((Bit.memTo f 60).take k) = S at *
        have HS : Hid (showH (h : Int) (r : Int) ++ showM ((Bit.memTo f 60).take k) = S) := hS
        clear hS
        go_wp2_with fail
        refine (l1Int j _ (by omega)).mono ?_
        rintro e w4 ⟨rfl, hb4⟩
        have hb34 := hbr.trans (hb4.mono hbr.size)
        clear hb4
        go_wp2
        go_roundw
        case rel => exact ⟨k + 1, by omega, by go_num, by rw [HT.out, ← List.append_assoc, HS.out, c32, B_app, B_app]; simp, hb34⟩
        case measure => simp [intOf]; omega
      · obtain rfl : k = n := by omega
        have HE : Hid ((Bit.memTo f 60).take k = Bit.memTo f 60) := List.take_of_length_le (by rw [← HN.out]; exact Nat.le_refl _)
        have c3' := (hbr.cell (p := ⟨b, 3, none⟩) S3).trans c3
        have BE := B3.trans (hbr.mono (Nat.le_of_lt S3))
        clear c3 B3 hbr S3 hM hM2
        by_cases hw : s.size = 0
        · have he : s.toList.isEmpty = true := isE s hw
          go_wp2
          go_ret
          refine ⟨?_, by rw [hb]; exact BE⟩
          rw [HE.out, c58, B_app]
          unfold showK
          simp [hw]
        · have he : s.toList.isEmpty = false := isN s hw
          go_wp2
          go_ret
          refine ⟨?_, by rw [hb]; exact BE⟩
          have es : s = B s.data.toList := by simp [B]
          rw [HE.out, c58, c32, B_app, B_app]
          conv => lhs; rw [es, B_app]
          unfold showK
          simp [hw]

end Kn
end Go.Proofs.YtiopckkcdmeagaaGreatDoor
