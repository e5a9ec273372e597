/-
  PROVED: for every two texts, every turn and every distance of turns, the law ChunkNewer answers true, and all read afterwards as before. No condition of our own.
-/
import Derived.Test.YthgnkkpmnfjohaaChunk15
import Derived.Test.YthgnkkpmnfjohaaOrdMath
import Derived.Test.YthgnkkpmnfjohaaRecArgs
import Derived.SizedLaws
import Derived.WalkKit
import Derived.ProofKit
import Derived.OpenShut
import Derived.ShutString
import Derived.ChangeOld
import Derived.Below
import Derived.SliceStrings
namespace Go.Proofs.Ythgnkkpmnfjohaa
open Go.RowKit
set_option linter.unusedVariables false

theorem pcAt_good (t : Int) (l : List UInt8) (k : Nat) (h0 : 0 ≤ t) (h1 : t ≤ 1099511627776) (hl : l.length ≤ 65536) (hk : k < cntN l.length) : checkP (pcAt t l k) = 0 := by
  have h100 : 100 * k < l.length := by unfold cntN at hk; omega
  unfold checkP pcAt
  simp only [List.length_take, List.length_drop]
  rw [if_neg (by omega), if_neg (by omega), if_neg]
  rw [countP_nat]
  omega
theorem pcAt_len (t : Int) (l : List UInt8) (k : Nat) : (pcAt t l k).text.length ≤ 1000000 := by
  show ((l.drop (100 * k)).take 100).length ≤ 1000000
  rw [List.length_take]; omega
theorem put_step (b B k : Nat) (g0 : GaS) (t : Int) (l : List UInt8) (w : World) (h : GaAt w b B (if k = 0 then g0 else gaK t l k)) (hk : k < cntN l.length) (h0 : 0 ≤ t) (h1 : t ≤ 1099511627776) (hl : l.length ≤ 65536) (hne : ¬ sameHead g0 (pcAt t l 0)) (hold : ¬ (0 < g0.cm ∧ t ≤ g0.t)) :
    Calls Try.prog 10 #[.pointer (some ⟨b, 0, none⟩), pcV (pcAt t l k)] w fun r w' => r = .returned (.int .i64 0) ∧ ∃ B', (B' = B ∧ 0 < k ∨ w.heap.size ≤ B') ∧ GaAt w' b B' (gaK t l (k + 1)) ∧ Touch (fun x => x = b ∨ x = B ∧ 0 < k) w w' := by
  have hc : cntN l.length ≤ 656 := by unfold cntN; omega
  rcases Nat.eq_zero_or_pos k with e | e
  · subst e
    rw [if_pos rfl] at h
    refine (put_new b B g0 (pcAt t l 0) w h (pcAt_good t l 0 h0 h1 hl hk) (pcAt_len t l 0) hne hold).mono ?_
    rintro r w' ⟨rfl, B', hB, hg, ht⟩
    rw [putNew_gaK t l hk] at hg
    exact ⟨rfl, B', .inr hB, hg, ht.mono fun x _ hx => .inl hx⟩
  · rw [if_neg (by omega)] at h
    refine (put_more b B (gaK t l k) (pcAt t l k) w h (pcAt_good t l k h0 h1 hl hk) (pcAt_len t l k) (gaK_same t l k k) (gaK_cnt t l k k) (gaK_free t l k hk) (by show k ≤ 1000000; omega)).mono ?_
    rintro r w' ⟨rfl, hg, ht⟩
    rw [putMore_gaK t l k hk] at hg
    exact ⟨rfl, B, .inl ⟨rfl, e⟩, hg, ht.mono fun x _ hx => hx.imp id fun y => ⟨y, e⟩⟩
theorem whole_gaK (b B : Nat) (t : Int) (l : List UInt8) (w : World) (h : GaAt w b B (gaK t l (cntN l.length))) (h0 : 0 < cntN l.length) (hl : l.length ≤ 65536) :
    Calls Try.prog 14 #[.pointer (some ⟨b, 0, none⟩)] w fun r w' => r = .returned (.tuple #[.string (bs l), .int .i64 t, .int .i64 0]) ∧ Below w.heap.size w w' := by
  have hc : cntN l.length ≤ 656 := by unfold cntN; omega
  have := whole_all b B _ w h h0 (gaK_len t l _).symm (by rw [gaK_len]; omega) (by rw [gaK_flat]; omega)
  rw [wholeV_gaK] at this
  exact this
theorem have_gaK (b B k : Nat) (t : Int) (l : List UInt8) (w : World) (h : GaAt w b B (gaK t l k)) :
    Calls Try.prog 13 #[.pointer (some ⟨b, 0, none⟩)] w fun r w' => r = .returned (.tuple #[.int .i64 (k : Int), .int .i64 (cntN l.length : Nat)]) ∧ Below w.heap.size w w' := by
  have := have_any b B _ w h
  rw [gaK_len] at this
  exact this
end Go.Proofs.Ythgnkkpmnfjohaa
namespace Go.Proofs.Ythgnkkpmnfjohaa
open Go.RowKit
set_option linter.unusedVariables false

/-- What Parse answers. -/
def OParsePost (w : World) (t : List Ord × Nat) (r : Ending) (w' : World) : Prop :=
  ∃ a c, r = .returned (.tuple #[.slice a t.1.length c, .int .i64 (t.2 : Nat)]) ∧ OrdRow w' a t.1 ∧ Below w.heap.size w w'
theorem awakeB : batchB [⟨1, 1, 2, -1⟩] = [1, 1, 1, 4, 1] := by decide +kernel
theorem awakeD : BatchDom [⟨1, 1, 2, -1⟩] := ⟨by decide, by intro o ho; simp at ho; subst ho; rfl⟩
theorem awakeP : parseO [1, 1, 1, 4, 1] = ([⟨1, 1, 2, -1⟩], 0) := by rw [← awakeB]; exact parseO_back _ awakeD
theorem awakeL : (bs [1, 1, 1, 4, 1]).toList = [1, 1, 1, 4, 1] := by simp [bs]
theorem keep8 {W w' : World} (hb : Below W.heap.size W w') {X Y o p : Nat} {x y z u x' y' z' u' : Value} (h : (W.cell? ⟨X, o, none⟩ = some x ∧ W.cell? ⟨X, o + 1, none⟩ = some y ∧ W.cell? ⟨X, o + 2, none⟩ = some z ∧ W.cell? ⟨X, o + 3, none⟩ = some u) ∧ (W.cell? ⟨Y, p, none⟩ = some x' ∧ W.cell? ⟨Y, p + 1, none⟩ = some y' ∧ W.cell? ⟨Y, p + 2, none⟩ = some z' ∧ W.cell? ⟨Y, p + 3, none⟩ = some u')) :
    (w'.cell? ⟨X, o, none⟩ = some x ∧ w'.cell? ⟨X, o + 1, none⟩ = some y ∧ w'.cell? ⟨X, o + 2, none⟩ = some z ∧ w'.cell? ⟨X, o + 3, none⟩ = some u) ∧ (w'.cell? ⟨Y, p, none⟩ = some x' ∧ w'.cell? ⟨Y, p + 1, none⟩ = some y' ∧ w'.cell? ⟨Y, p + 2, none⟩ = some z' ∧ w'.cell? ⟨Y, p + 3, none⟩ = some u') := by
  have hX := block_lt_of_cell h.1.1
  have hY := block_lt_of_cell h.2.1
  exact ⟨⟨(hb.cell (p := ⟨X, o, none⟩) hX).trans h.1.1, (hb.cell (p := ⟨X, o + 1, none⟩) hX).trans h.1.2.1, (hb.cell (p := ⟨X, o + 2, none⟩) hX).trans h.1.2.2.1, (hb.cell (p := ⟨X, o + 3, none⟩) hX).trans h.1.2.2.2⟩,
    ⟨(hb.cell (p := ⟨Y, p, none⟩) hY).trans h.2.1, (hb.cell (p := ⟨Y, p + 1, none⟩) hY).trans h.2.2.1, (hb.cell (p := ⟨Y, p + 2, none⟩) hY).trans h.2.2.2.1, (hb.cell (p := ⟨Y, p + 3, none⟩) hY).trans h.2.2.2.2⟩⟩
end Go.Proofs.Ythgnkkpmnfjohaa
namespace Go.Proofs.Ythgnkkpmnfjohaa
open Go.RowKit
set_option linter.unusedVariables false

theorem andM (a : Int) (m : Nat) (mi : Int) (hm : mi = (m : Int)) (h : m ≤ 9223372036854775807) : ∃ k : Nat, k ≤ m ∧ bits .and .i64 a mi = (k : Int) := by
  subst hm
  have e : (BitVec.ofInt 64 (m : Int)).toNat = m := by simp; omega
  have hle : (BitVec.ofInt 64 a &&& BitVec.ofInt 64 (m : Int)).toNat ≤ m := by
    rw [BitVec.toNat_and, e]; exact Nat.and_le_right
  refine ⟨(BitVec.ofInt 64 a &&& BitVec.ofInt 64 (m : Int)).toNat, hle, ?_⟩
  show IntKind.i64.wrap ((BitVec.ofInt 64 a &&& BitVec.ofInt 64 (m : Int)).toNat : Int) = _
  rw [IntKind.wrap_i64]
  omega
/-- Records as orders. -/
def toOrd (r : List Int) : Ord := ⟨r.getD 0 0, r.getD 1 0, r.getD 2 0, r.getD 3 0⟩
theorem toOrd_ints (r : List Int) (h : r.length = 4) : (toOrd r).ints = r := by
  obtain ⟨a, b, c, d, rfl⟩ := list_4 h
  rfl
theorem toOrds {ls : List (List Int)} (h : Wide 4 ls) : ordsI (ls.map toOrd) = ls := by
  unfold ordsI
  rw [List.map_map]
  have : ∀ x ∈ ls, (Ord.ints ∘ toOrd) x = x := fun x hx => toOrd_ints x (h x hx)
  conv => rhs; rw [← List.map_id ls]
  exact List.map_congr_left this
def OrdArg (w : World) (a : Option Addr) (len cap : Nat) (l : List Ord) : Prop :=
  len = l.length ∧ len ≤ cap ∧ cap ≤ maxLen ∧ OrdRow w a l ∧ (a = none → l = []) ∧ ∀ o ∈ l, OrdOk o
theorem RecArg.ords {w : World} {a : Option Addr} {len cap : Nat} {ls : List (List Int)} (h : RecArg 4 w a len cap ls) : OrdArg w a len cap (ls.map toOrd) := by
  obtain ⟨h1, h2, h3, h4, h5, h6, h7⟩ := h
  refine ⟨by rw [h1]; simp, h2, h3, by unfold OrdRow; rw [toOrds h4]; exact h5, fun e => by rw [h6 e]; rfl, fun o ho => ?_⟩
  simp only [List.mem_map] at ho
  obtain ⟨r, hr, rfl⟩ := ho
  obtain ⟨a, b, c, d, rfl⟩ := list_4 (h4 r hr)
  have := h7 _ hr
  exact ⟨this a (by simp), this b (by simp), this c (by simp), this d (by simp)⟩
theorem OrdArg.below {w w' : World} {a : Option Addr} {len cap : Nat} {l : List Ord} (h : OrdArg w a len cap l) (hb : Below w.heap.size w w') : OrdArg w' a len cap l := ⟨h.1, h.2.1, h.2.2.1, h.2.2.2.1.below hb, h.2.2.2.2⟩
theorem dom_move (u a b : Nat) (hu : u ≤ 63) (ha : a ≤ 127) (hb : b ≤ 127) : OrdDom ⟨1, 1 + u, 1 + a, b⟩ := by
  have h1 : numQ (1 + u) = true := by simp [numQ]; omega
  have h2 : placeQ (1 + a) = true := by simp [placeQ]; omega
  have h3 : placeQ b = true := by simp [placeQ]; omega
  simp [OrdDom, checkN, h1, h2, h3, okN]
theorem dom_hit (u a : Nat) (hu : u ≤ 63) (ha : a ≤ 127) : OrdDom ⟨2, 1 + u, 1 + a, 0⟩ := by
  have h1 : numQ (1 + u) = true := by simp [numQ]; omega
  have h2 : numQ (1 + a) = true := by simp [numQ]; omega
  simp [OrdDom, checkN, h1, h2, okN]
theorem dom_build (a b : Nat) (ha : a ≤ 127) (hb : b ≤ 127) : OrdDom ⟨3, 0, 1 + a, b⟩ := by
  have h2 : kindQ (1 + a) = true := by simp [kindQ]; omega
  have h3 : placeQ b = true := by simp [placeQ]; omega
  simp [OrdDom, checkN, h2, h3, okN]
theorem dom_halt (u : Nat) (hu : u ≤ 63) : OrdDom ⟨4, 1 + u, 0, 0⟩ := by
  have h1 : numQ (1 + u) = true := by simp [numQ]; omega
  simp [OrdDom, checkN, h1, okN]
end Go.Proofs.Ythgnkkpmnfjohaa
namespace Go.Proofs.Ythgnkkpmnfjohaa
open Go.RowKit
set_option linter.unusedVariables false

/-- The gather at b, its row at B; a row of pieces. -/
structure NwMem (w : World) (b B : Nat) (g : GaS) (t : Int) (l : List UInt8) (a : Option Addr) (c : Nat) (wr : World) : Prop where
  ga : GaAt wr b B g
  row : OwnV 32 5 w.heap.size a c ((splitL t l).map pcCells) wr
  nb : ∀ x, a = some x → x.block ≠ b ∧ (0 < g.ts.length → x.block ≠ B)
  hb : w.heap.size ≤ b
  hB : 0 < g.ts.length → w.heap.size ≤ B
  bel : Below w.heap.size w wr
theorem NwMem.keep {w : World} {b B : Nat} {g : GaS} {t : Int} {l : List UInt8} {a : Option Addr} {c : Nat} {wr w' : World} (h : NwMem w b B g t l a c wr) (hb : Below wr.heap.size wr w') : NwMem w b B g t l a c w' :=
  ⟨h.ga.keep hb, h.row.touch (touch_of_below (S := fun _ => False) hb) (fun _ _ => id), h.nb, h.hb, h.hB, h.bel.trans (hb.mono h.bel.size)⟩
theorem gaK_pos (t : Int) (l : List UInt8) (k i : Nat) (h : i < cntN l.length) : 0 < (gaK t l k).ts.length := by rw [gaK_len]; omega
theorem NwMem.step {w wr w' : World} {b B B' k : Nat} {g0 : GaS} {t : Int} {l : List UInt8} {a : Option Addr} {c : Nat} (h : NwMem w b B (if k = 0 then g0 else gaK t l k) t l a c wr) (hk : k < cntN l.length) (hB : B' = B ∧ 0 < k ∨ wr.heap.size ≤ B') (hg : GaAt w' b B' (gaK t l (k + 1))) (ht : Touch (fun x => x = b ∨ x = B ∧ 0 < k) wr w') : NwMem w b B' (if k + 1 = 0 then g0 else gaK t l (k + 1)) t l a c w' := by
  have hs := h.bel.size
  have hk0 : 0 < k → 0 < (if k = 0 then g0 else gaK t l k).ts.length := fun e => by rw [if_neg (by omega)]; exact gaK_pos t l k k hk
  rw [if_neg (by omega)]
  refine ⟨hg, h.row.touch ht (fun x hx e => ?_), fun x hx => ⟨(h.nb x hx).1, fun _ e => ?_⟩, h.hb, fun _ => ?_, h.bel.trans (ht.below hs ?_)⟩
  · rcases e with e | ⟨e, e2⟩
    · exact (h.nb x hx).1 e
    · exact (h.nb x hx).2 (hk0 e2) e
  · rcases hB with ⟨e1, e2⟩ | e1
    · exact (h.nb x hx).2 (hk0 e2) (e.trans e1)
    · have := h.row.lt x hx; omega
  · rcases hB with ⟨e1, e2⟩ | e1
    · have := h.hB (hk0 e2); omega
    · omega
  · rintro j hj (e | ⟨e, e2⟩)
    · have := h.hb; omega
    · have := h.hB (hk0 e2); omega
/-- Other pieces take the row's place. -/
theorem NwMem.other {w wr w' : World} {b B : Nat} {g : GaS} {t t2 : Int} {l l2 : List UInt8} {a a2 : Option Addr} {c c2 : Nat} (h : NwMem w b B g t l a c wr) (hb : Below wr.heap.size wr w') (ho : OwnV 32 5 wr.heap.size a2 c2 ((splitL t2 l2).map pcCells) w') : NwMem w b B g t2 l2 a2 c2 w' := by
  have hs := h.bel.size
  have hbl := h.ga.lt
  refine ⟨h.ga.keep hb, ⟨ho.1, fun x hx => by have := ho.2 x hx; omega⟩, fun x hx => ⟨fun e => by have := ho.2 x hx; omega, fun h0 e => ?_⟩, h.hb, h.hB, h.bel.trans (hb.mono hs)⟩
  have h1 := ho.2 x hx
  have h2 : B < wr.heap.size := block_lt_of_cell (h.ga.row 0 h0)
  omega
theorem cut_list (s : ByteArray) (n : Nat) (hs : 0 < s.size) (hn : 0 < n) : ∃ l : List UInt8, cutB s n = bs l ∧ 1 ≤ l.length ∧ l.length ≤ n := by
  refine ⟨(cutB s n).data.toList, (bs_eta _).symm, ?_, ?_⟩
  · have : (cutB s n).data.toList.length = (cutB s n).size := by simp
    rw [this]; unfold cutB; split
    · simp; omega
    · omega
  · have : (cutB s n).data.toList.length = (cutB s n).size := by simp
    rw [this]; exact cutB_le s n
theorem plus_one (a : ByteArray) (c : UInt8) (h : a.size ≤ reachBytes) : ∃ S : ByteArray, a ++ ⟨#[c]⟩ = S ∧ 0 < S.size ∧ S.size ≤ maxLen ∧ ∀ W, (Op.stringOp .add a ⟨#[c]⟩).run Try.prog W = .ok (.string S) W := by
  have h1 : (a ++ ⟨#[c]⟩).size = a.size + 1 := by rw [ByteArray.size_append]; rfl
  have h2 : reachBytes + 1 ≤ maxLen := by decide
  exact ⟨_, rfl, by omega, by omega, fun W => run_string_add_sum W _ _ (by show a.size + 1 ≤ maxLen; omega)⟩
set_option maxRecDepth 100000 in
set_option maxHeartbeats 2000000 in
theorem chunkNewer_walk (w : World) (a0 a1 : ByteArray) (z0 : a0.size ≤ reachBytes) (z1 : a1.size ≤ reachBytes) (turn by' : Int) :
    Calls Try.prog 5 #[.string a0, .string a1, .int .i64 turn, .int .i64 by'] w fun e w' => e = .returned (.bool true) ∧ Below w.heap.size w w' := by
  have HAW := Lib.hid (fun W => awake11_any W)
  have HNW := Lib.hid (fun W => gaNew_any W)
  obtain ⟨q, hq, eq⟩ := andM turn 65535 65535 rfl (by decide)
  obtain ⟨d, hd, ed⟩ := andM by' 255 255 rfl (by decide)
  obtain ⟨S0, -, p0, m0, v0⟩ := plus_one a0 97 z0
  obtain ⟨S1, -, p1, m1, v1⟩ := plus_one a1 98 z1
  obtain ⟨l0, e0, hl0, hm0⟩ := cut_list S0 400 p0 (by decide)
  obtain ⟨l1, e1, hl1, hm1⟩ := cut_list S1 400 p1 (by decide)
  have HC0 := Lib.hid (fun W => cut_any S0 400 W m0 (by decide))
  have HC1 := Lib.hid (fun W => cut_any S1 400 W m1 (by decide))
  rw [e0] at HC0
  rw [e1] at HC1
  clear e0 e1 p0 p1 m0 m1 z0 z1
  go_enter Try.func5, Try.ntmps5
  go_wp2_with fail
  refine (HC0.out _).mono ?_
  rintro e w' ⟨rfl, rfl⟩
  go_wp2_with fail
  refine (HC1.out _).mono ?_
  rintro e w' ⟨rfl, rfl⟩
  clear v0 v1 HC0 HC1
  go_wp2_with fail
  refine (HAW.out _).mono ?_
  rintro e w1 ⟨rfl, hb1⟩
  have HB1 := Lib.hid hb1
  clear hb1
  go_wp2_with fail
  refine (HNW.out _).mono ?_
  rintro e w2 ⟨rfl, hga, hb2⟩
  have HG2 := Lib.hid hga.at
  have HB2 := Lib.hid (HB1.out.trans (hb2.mono HB1.out.size))
  have hbw : w.heap.size ≤ w1.heap.size := HB1.out.size
  clear hga hb2 HNW HAW
  generalize w1.heap.size = b at HG2 hbw ⊢
  have HSP := Lib.hid (fun W => split_any (q : Int) l0 W (by omega))
  have HSP1 := Lib.hid (fun W => split_any ((q : Int) + (1 + (d : Int))) l1 W (by omega))
  go_wp2_with fail
  refine (HSP.out _).mono ?_
  rintro r w3 ⟨a, c, rfl, hown, hb3⟩
  have HM3 : Hid (NwMem w b 0 (if 0 = 0 then ⟨0, 0, 0, [], 0⟩ else gaK (q : Int) l0 0) (q : Int) l0 a c w3) := Lib.hid ⟨HG2.out.keep hb3, ⟨hown.1, fun x hx => by have := hown.2 x hx; have := HB2.out.size; omega⟩, fun x hx => ⟨fun e => by have := hown.2 x hx; have := HG2.out.lt; omega, fun h0 => absurd h0 (Nat.not_lt_zero _)⟩, hbw, fun h0 => absurd h0 (Nat.not_lt_zero _), HB2.out.trans (hb3.mono HB2.out.size)⟩
  clear hown hb3 HB2 HG2 HB1
  have hlen : (splitL (q : Int) l0).length = cntN l0.length := splitK_len _ _ _
  have hlen1 : (splitL ((q : Int) + (1 + (d : Int))) l1).length = cntN l1.length := splitK_len _ _ _
  have HLE1 := Lib.hid hlen1
  have hn0 : 0 < cntN l0.length ∧ cntN l0.length ≤ 4 := by unfold cntN; omega
  have hn1 : 0 < cntN l1.length ∧ cntN l1.length ≤ 4 := by unfold cntN; omega
  simp only [hlen]
  clear hlen hlen1
  have HWH := Lib.hid (fun B W h => whole_gaK b B (q : Int) l0 W h hn0.1 (by omega))
  have HWH1 := Lib.hid (fun B W h => whole_gaK b B ((q : Int) + (1 + (d : Int))) l1 W h hn1.1 (by omega))
  generalize hN : cntN l0.length = n at hn0 HWH
  generalize hN1 : cntN l1.length = n1 at hn1 HWH1 HLE1
  have HNN := Lib.hid hN
  have HNN1 := Lib.hid hN1
  obtain ⟨hn0, hn4⟩ := hn0
  obtain ⟨hn1, hn14⟩ := hn1
  clear hN hN1
  go_wp2
  go_loopw [41] (fun iv wr => ∃ k : Nat, k ≤ n ∧ iv = .int .i64 k ∧ ∃ B, Hid (NwMem w b B (if k = 0 then ⟨0, 0, 0, [], 0⟩ else gaK (q : Int) l0 k) (q : Int) l0 a c wr)) (fun iv _ => n - (intOf iv).toNat)
  case atStart => exact ⟨0, Nat.zero_le _, rfl, 0, HM3⟩
  case round =>
    obtain ⟨k, hk, rfl, B, HM⟩ := hrel
    by_cases hlt : k < n
    · obtain ⟨gb, rfl, hg, hgB, hc⟩ := own_piece HM.out.row (by rw [HNN.out]; omega)
      obtain ⟨c0, c1, c2, c3, c4⟩ := hc k (by rw [HNN.out]; exact hlt)
      have HPK := Lib.hid (show pcV (pcAt (q : Int) l0 k) = .agg #[.int .i64 (q : Int), .int .i64 (l0.length : Int), .int .u64 (sumOf l0 : Int), .int .i64 (k : Int), .string (bs ((l0.drop (100 * k)).take 100))] from rfl)
      have HPUT := Lib.hid (fun W h => put_step b B k ⟨0, 0, 0, [], 0⟩ (q : Int) l0 W h (by rw [HNN.out]; exact hlt) (by omega) (by omega) (by omega) (fun hs => by have h2 : ((l0.length : Int)) = 0 := hs.2.1; omega) (fun hs => absurd hs.1 (Nat.not_lt_zero _)))
      rw [HPK.out] at HPUT
      clear hc HPK
      generalize bs ((l0.drop (100 * k)).take 100) = Tk at c4 HPUT
      generalize hL0 : (l0.length : Int) = L0 at c1 HPUT
      generalize hsm : sumOf l0 = sm at c2 HPUT
      clear hL0 hsm
      have hk0 : (0 : Int) ≤ (k : Int) := by omega
      have hk1 : (k : Int) < (n : Int) := by omega
      go_wp2_with fail
      have HMa := Lib.hid (HM.out.keep (bel_alloc (Below.refl _ _) (.cells #[.int .i64 (q : Int), .int .i64 L0, .int .u64 (sm : Int), .int .i64 (k : Int), .string Tk] 32)))
      refine (HPUT.out _ HMa.out.ga).mono ?_
      rintro r w5 ⟨rfl, B', hB', hg', ht⟩
      have HM5 := Lib.hid (HMa.out.step (by rw [HNN.out]; exact hlt) hB' hg' ht)
      clear hB' hg' ht HMa HM c0 c1 c2 c3 c4
      go_wp2
      go_roundw
      case rel => exact ⟨k + 1, by omega, by go_num, B', HM5⟩
      case measure => simp [intOf]; omega
    · obtain rfl : k = n := by omega
      have HM4 : Hid (NwMem w b B (gaK (q : Int) l0 k) (q : Int) l0 a c wr) := Lib.hid (by have := HM.out; rw [if_neg (by omega)] at this; exact this)
      have hse := str_eq (bs l0)
      clear HM
      go_wp2_with fail
      refine (HWH.out B _ HM4.out.ga).mono ?_
      rintro r w5 ⟨rfl, hb5⟩
      have HM5 := Lib.hid (HM4.out.keep hb5)
      clear hb5 HM4 HWH
      go_wp2_with fail
      refine (HSP1.out _).mono ?_
      rintro r w6 ⟨a2, c2, rfl, hown, hb6⟩
      have HM6 : Hid (NwMem w b B (if 0 = 0 then gaK (q : Int) l0 k else gaK ((q : Int) + (1 + (d : Int))) l1 0) ((q : Int) + (1 + (d : Int))) l1 a2 c2 w6) := Lib.hid (HM5.out.other hb6 hown)
      simp only [HLE1.out]
      clear hown hb6 HM5 HSP1 HLE1
      go_wp2
      go_loopw [75] (fun iv wr => ∃ j : Nat, j ≤ n1 ∧ iv = .int .i64 j ∧ ∃ B, Hid (NwMem w b B (if j = 0 then gaK (q : Int) l0 k else gaK ((q : Int) + (1 + (d : Int))) l1 j) ((q : Int) + (1 + (d : Int))) l1 a2 c2 wr)) (fun iv _ => n1 - (intOf iv).toNat)
      case atStart => exact ⟨0, Nat.zero_le _, rfl, B, HM6⟩
      case round =>
        obtain ⟨j, hj, rfl, B2, HM⟩ := hrel
        by_cases hlt : j < n1
        · obtain ⟨gb, rfl, hg, hgB, hc⟩ := own_piece HM.out.row (by rw [HNN1.out]; omega)
          obtain ⟨c0, c1, c2', c3, c4⟩ := hc j (by rw [HNN1.out]; exact hlt)
          have HPK := Lib.hid (show pcV (pcAt ((q : Int) + (1 + (d : Int))) l1 j) = .agg #[.int .i64 ((q : Int) + (1 + (d : Int))), .int .i64 (l1.length : Int), .int .u64 (sumOf l1 : Int), .int .i64 (j : Int), .string (bs ((l1.drop (100 * j)).take 100))] from rfl)
          have HPUT := Lib.hid (fun W h => put_step b B2 j (gaK (q : Int) l0 k) ((q : Int) + (1 + (d : Int))) l1 W h (by rw [HNN1.out]; exact hlt) (by omega) (by omega) (by omega) (fun hs => by have h2 : (q : Int) + (1 + (d : Int)) = (q : Int) := hs.1; omega) (fun hs => by have h2 : (q : Int) + (1 + (d : Int)) ≤ (q : Int) := hs.2; omega))
          have HHV := Lib.hid (fun B W h => have_gaK b B (j + 1) ((q : Int) + (1 + (d : Int))) l1 W h)
          rw [HNN1.out, show ((j + 1 : Nat) : Int) = (j : Int) + 1 from rfl] at HHV
          rw [HPK.out] at HPUT
          clear hc HPK
          generalize bs ((l1.drop (100 * j)).take 100) = Tk at c4 HPUT
          generalize hL0 : (l1.length : Int) = L0 at c1 HPUT
          generalize hsm : sumOf l1 = sm at c2' HPUT
          clear hL0 hsm
          have hk0 : (0 : Int) ≤ (j : Int) := by omega
          have hk1 : (j : Int) < (n1 : Int) := by omega
          go_wp2_with fail
          have HMa := Lib.hid (HM.out.keep (bel_alloc (Below.refl _ _) (.cells #[.int .i64 ((q : Int) + (1 + (d : Int))), .int .i64 L0, .int .u64 (sm : Int), .int .i64 (j : Int), .string Tk] 32)))
          refine (HPUT.out _ HMa.out.ga).mono ?_
          rintro r w7 ⟨rfl, B', hB', hg', ht⟩
          have HM7 := Lib.hid (HMa.out.step (by rw [HNN1.out]; exact hlt) hB' hg' ht)
          have HG7 := Lib.hid hg'
          clear hB' hg' ht HMa HM c0 c1 c2' c3 c4
          go_wp2_with fail
          refine (HHV.out _ _ HG7.out).mono ?_
          rintro r w8 ⟨rfl, hb8⟩
          have HM8 := Lib.hid (HM7.out.keep hb8)
          clear hb8 HM7 HG7 HHV
          go_wp2
          go_roundw
          case rel => exact ⟨j + 1, by omega, by go_num, B', HM8⟩
          case measure => simp [intOf]; omega
        · obtain rfl : j = n1 := by omega
          have HM7 : Hid (NwMem w b B2 (gaK ((q : Int) + (1 + (d : Int))) l1 j) ((q : Int) + (1 + (d : Int))) l1 a2 c2 wr) := Lib.hid (by have := HM.out; rw [if_neg (by omega)] at this; exact this)
          have hse := str_eq (bs l1)
          clear HM
          go_wp2_with fail
          refine (HWH1.out B2 _ HM7.out.ga).mono ?_
          rintro r w8 ⟨rfl, hb8⟩
          have HM8 := Lib.hid (HM7.out.keep hb8)
          clear hb8 HM7 HWH1
          go_wp2_with fail
          refine (HSP.out _).mono ?_
          rintro r w9 ⟨a3, c3, rfl, hown, hb9⟩
          have HM9 := Lib.hid (HM8.out.keep hb9)
          clear hb9 HM8 HSP
          obtain ⟨gb, rfl, hg, hgB, hc⟩ := own_piece hown (by rw [HNN.out]; omega)
          obtain ⟨x0, x1, x2, x3, x4⟩ := hc 0 (by rw [HNN.out]; omega)
          have HPK := Lib.hid (show pcV (pcAt (q : Int) l0 0) = .agg #[.int .i64 (q : Int), .int .i64 (l0.length : Int), .int .u64 (sumOf l0 : Int), .int .i64 0, .string (bs ((l0.drop (100 * 0)).take 100))] from rfl)
          have HPK1 := Lib.hid (show pcV (pcAt ((q : Int) + (1 + (d : Int))) l1 0) = .agg #[.int .i64 ((q : Int) + (1 + (d : Int))), .int .i64 (l1.length : Int), .int .u64 (sumOf l1 : Int), .int .i64 0, .string (bs ((l1.drop (100 * 0)).take 100))] from rfl)
          have HOLD := Lib.hid (fun W h => put_old b B2 (gaK ((q : Int) + (1 + (d : Int))) l1 j) (pcAt (q : Int) l0 0) W h (pcAt_good _ _ _ (by omega) (by omega) (by omega) (by rw [HNN.out]; omega)) (pcAt_len _ _ _) (fun hs => by have h2 : (q : Int) = (q : Int) + (1 + (d : Int)) := hs.1; omega) ⟨by show 0 < j; omega, by show (q : Int) ≤ (q : Int) + (1 + (d : Int)); omega⟩)
          have HTHR := Lib.hid (fun W h => put_there b B2 (gaK ((q : Int) + (1 + (d : Int))) l1 j) (pcAt ((q : Int) + (1 + (d : Int))) l1 0) W h (pcAt_good _ _ _ (by omega) (by omega) (by omega) (by rw [HNN1.out]; omega)) (pcAt_len _ _ _) (gaK_same _ _ _ _) (gaK_cnt _ _ _ _) (gaK_there _ _ _ 0 (by rw [HNN1.out]; omega) (by omega)))
          rw [HPK.out] at HOLD
          rw [HPK1.out] at HTHR
          simp only [Nat.zero_mul, Nat.zero_add] at x0 x1 x2 x3 x4
          have hl3 : (splitL (q : Int) l0).length = k := by rw [← HNN.out]; exact splitK_len _ _ _
          simp only [hl3]
          clear hc HPK HPK1 hown hl3
          generalize bs ((l0.drop (100 * 0)).take 100) = Tk at x4 HOLD
          generalize hL0 : (l0.length : Int) = L0 at x1 HOLD
          generalize hsm : sumOf l0 = sm at x2 HOLD
          clear hL0 hsm
          have hk1 : (0 : Int) < (k : Int) := by omega
          have hj1 : (0 : Int) < (j : Int) := by omega
          have x3' : w9.cell? ⟨gb, 3, none⟩ = some (.int .i64 0) := x3
          clear x3
          go_wp2_with fail
          refine (HOLD.out _ HM9.out.ga).mono ?_
          rintro r w10 ⟨rfl, hb10⟩
          have HM10 := Lib.hid (HM9.out.keep hb10)
          clear hb10 HM9 HOLD x0 x1 x2 x3' x4
          obtain ⟨gb2, rfl, hg2, hgB2, hc2⟩ := own_piece HM10.out.row (by rw [HNN1.out]; omega)
          obtain ⟨y0, y1, y2, y3, y4⟩ := hc2 0 (by rw [HNN1.out]; omega)
          simp only [Nat.zero_mul, Nat.zero_add] at y0 y1 y2 y3 y4
          have y3' : w10.cell? ⟨gb2, 3, none⟩ = some (.int .i64 0) := y3
          clear hc2 y3
          generalize bs ((l1.drop (100 * 0)).take 100) = Tk at y4 HTHR
          generalize hL0 : (l1.length : Int) = L0 at y1 HTHR
          generalize hsm : sumOf l1 = sm at y2 HTHR
          clear hL0 hsm
          go_wp2_with fail
          refine (HTHR.out _ HM10.out.ga).mono ?_
          rintro r w11 ⟨rfl, hb11⟩
          have HB11 := Lib.hid (HM10.out.bel.trans (hb11.mono HM10.out.bel.size))
          clear hb11
          go_wp2
          go_ret
          exact ⟨rfl, HB11.out⟩
end Go.Proofs.Ythgnkkpmnfjohaa
namespace Go.Proofs.Ythgnkkpmnfjohaa.chunkNewer
open Go.ChangeShapes Go.WideShapes Go.ChangeAt Go.RowKit
open Go.ChangeMaps (open_string shut_string)
set_option linter.unusedVariables false
theorem walk (a0 : ByteArray) (z0 : a0.size ≤ reachBytes) (a1 : ByteArray) (z1 : a1.size ≤ reachBytes) (a2 : Int) (w2 : (Lit.int .i64 a2).wf = true) (a3 : Int) (w3 : (Lit.int .i64 a3).wf = true) (w : World) :
    Calls Try.prog 5 #[.string a0, .string a1, .int .i64 a2, .int .i64 a3] w fun e w' => e = .returned (.bool true) ∧ Below w.heap.size w w' :=
  chunkNewer_walk w a0 a1 z0 z1 a2 a3

/-! ### THE ROW's STEP -/
theorem own : ownKnob Try.prog.godebug = none := by kernel_rfl
theorem laidOut : laidOutB Try.prog = true := by kernel_rfl
set_option maxRecDepth 100000 in
theorem lifted (os : Os) (started : os.Started) (H : Type) (enc : TypeId × Value → H) :
    ReturnsInHanded {} Try.checked os 5 .any (Rows.chunkNewerSpec.pre6 enc Try.prog Try.f5 Rows.chunkNewerRow.domain false) (Rows.chunkNewerSpec.post enc Try.prog Try.f5 false true false false) := by
  refine returnsInHanded_of_change_sized (C := Try.checked) own started (by kernel_rfl) Try.func5
    (ChangeSpec.witness6 (enc := enc) (C := Try.checked) false ⟨#[], #[.string ByteArray.empty, .string ByteArray.empty, .int .i64 0, .int .i64 0], []⟩ 8 (by kernel_rfl) (by kernel_rfl) (by kernel_rfl) (by kernel_rfl)) ?_
  intro W base args ds gs before hval0 hW hcnd hsz0 _
  have hval : ∀ (j : Nat) t v, Try.f5.params[j]? = some t → args[j]? = some v → Value.okWide Try.prog W .any base t v := hval0
  have hW' := hW
  obtain ⟨p, q, hA0, hV, rfl, hfz, hnd⟩ := hW
  have hA : DataW.TrodAll enc Try.prog W 0 (fun _ => true) true Try.f5.params.toList args.toList ds p := hA0
  have hsz : (DataW.weightsEach Try.prog (Try.f5.params.toList ++ Rows.chunkNewerSpec.plain.varTypes Try.prog) (ds ++ gs)).all (· ≤ reachBytes) = true := hsz0
  rw [Try.params5] at hA hval hsz
  obtain ⟨v0, vs0, d0, ds0, p0, q0, hargs, rfl, rfl, h0, r0⟩ := trodAll_cons hA
  obtain ⟨v1, vs1, d1, ds1, p1, q1, rfl, rfl, rfl, h1, r1⟩ := trodAll_cons r0
  obtain ⟨v2, vs2, d2, ds2, p2, q2, rfl, rfl, rfl, h2, r2⟩ := trodAll_cons r1
  obtain ⟨v3, vs3, d3, ds3, p3, q3, rfl, rfl, rfl, h3, r3⟩ := trodAll_cons r2
  obtain ⟨rfl, rfl, rfl⟩ := trodAll_nil r3
  obtain rfl : args = #[v0, v1, v2, v3] := by cases args; simp_all
  obtain ⟨rfl, rfl⟩ := trodVars_none hV
  have k0 := h0
  have lt0 : ∀ x ∈ p0, x.block < W.heap.size := by obtain ⟨m, hm⟩ := k0; exact DataW.trod_lt m _ _ _ hm
  obtain ⟨a0, rfl, rfl, rfl, w0⟩ := open_string Try.underlying9 (hval 0 9 v0 rfl rfl) h0
  have k1 := h1
  have lt1 : ∀ x ∈ p1, x.block < W.heap.size := by obtain ⟨m, hm⟩ := k1; exact DataW.trod_lt m _ _ _ hm
  obtain ⟨a1, rfl, rfl, rfl, w1⟩ := open_string Try.underlying9 (hval 1 9 v1 rfl rfl) h1
  have k2 := h2
  have lt2 : ∀ x ∈ p2, x.block < W.heap.size := by obtain ⟨m, hm⟩ := k2; exact DataW.trod_lt m _ _ _ hm
  obtain ⟨a2, rfl, rfl, rfl, w2⟩ := open_int Try.underlying3 (hval 2 3 v2 rfl rfl) h2
  have k3 := h3
  have lt3 : ∀ x ∈ p3, x.block < W.heap.size := by obtain ⟨m, hm⟩ := k3; exact DataW.trod_lt m _ _ _ hm
  obtain ⟨a3, rfl, rfl, rfl, w3⟩ := open_int Try.underlying3 (hval 3 3 v3 rfl rfl) h3
  have z0 : a0.size ≤ reachBytes := by
    have := sized_string hsz (j := 0) (t := 9) rfl rfl
    rw [Array.length_toList] at this
    exact this
  have z1 : a1.size ≤ reachBytes := by
    have := sized_string hsz (j := 1) (t := 9) rfl rfl
    rw [Array.length_toList] at this
    exact this
  clear hA0 hval0
  refine (walk a0 z0 a1 z1 a2 w2 a3 w3 W).mono fun e W' ⟨he, bel⟩ => ?_
  subst he
  exact ⟨_, rfl, _, _, _, [], _, [], hW', trodAll_mk1 (shut_bool Try.underlying4 _), (trodAll_cons_mk (Below.trod laidOut (by kernel_rfl) (of_decide_eq_true (by kernel_rfl)) k0 bel lt0) (trodAll_cons_mk (Below.trod laidOut (by kernel_rfl) (of_decide_eq_true (by kernel_rfl)) k1 bel lt1) (trodAll_cons_mk (Below.trod laidOut (by kernel_rfl) (of_decide_eq_true (by kernel_rfl)) k2 bel lt2) (trodAll_cons_mk (Below.trod laidOut (by kernel_rfl) (of_decide_eq_true (by kernel_rfl)) k3 bel lt3) trodAll_mk0)))), rfl, bel.frame _, fun h => by cases h⟩

theorem over : Rows.chunkNewerRow.holds Try.pinned (OpenSpec.ofChange Rows.chunkNewerSpec) :=
  OpenClaim.holds_of_wide 5 Try.f5 rfl rfl rfl rfl rfl rfl rfl ⟨rfl, rfl, rfl, rfl, rfl⟩ rfl rfl rfl rfl rfl (by kernel_rfl) Try.func5 (by kernel_rfl)
    (of_decide_eq_true (by kernel_rfl)) (by unfold Func.isWrapper; first | (rw [if_pos (by decide +kernel)]; kernel_rfl) | (rw [if_neg (by decide +kernel)]; exact ⟨rfl, rfl⟩))
    (fun os started H enc _ => lifted os started H enc)

end Go.Proofs.Ythgnkkpmnfjohaa.chunkNewer
namespace Go.Proofs.Ythgnkkpmnfjohaa
theorem chunkNewer_proved : Rows.ChunkNewerSaid := chunkNewer.over
end Go.Proofs.Ythgnkkpmnfjohaa
