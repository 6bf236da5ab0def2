/- What is written is read as the same, thing by thing, with what is left told; of a shorter beginning a read is refused: OctetsThere answers true. -/
import Derived.Test.YtcmembmaaebdeaaThereI
import Derived.Deep.RegionHeld3
namespace Go.Proofs.Ytcmembmaaebdeaa
open Go.RowKit Go.PlainAid Go.Lib

theorem wrote_keep {w wr w5 w6 : World} {g : Nat} {l r : List UInt8} {rb : Option Nat} {ev : Value} {es : List Int} (h : Inv1 w wr g l rb ev es) (k : Keep [] wr.drew w5) (W : Wrote w5 w6 g 0 l r rb) : Keep [] w w6 := by
  obtain ⟨_, h2⟩ := (h.same (((Keep.refl [] _).drew).trans' k)).write W
  exact h2.keep

/-- the cells of the thing p at b, o; u: its bytes' slice -/
structure PutC (w : World) (b o : Nat) (p : PutD) (u : Value) : Prop where
  on : w.cell? ⟨b, o, none⟩ = some (.int .i64 p.on)
  kind : w.cell? ⟨b, o + 1, none⟩ = some (.int .i64 p.kind)
  uint : w.cell? ⟨b, o + 2, none⟩ = some (.int .u64 (p.uint : Int))
  int : w.cell? ⟨b, o + 3, none⟩ = some (.int .i64 p.int)
  real : w.cell? ⟨b, o + 4, none⟩ = some (.float .f32 p.real)
  text : w.cell? ⟨b, o + 5, none⟩ = some (.string p.text)
  raw : w.cell? ⟨b, o + 6, none⟩ = some u

theorem put_start {w w' : World} {b o : Nat} {p : PutD} {u : Value} (h : PutC w b o p u) (k : Keep [] w w') :
    w'.cell? ⟨b, o, none⟩ = some (.int .i64 p.on) ∧ w'.cell? ⟨b, o + 1, none⟩ = some (.int .i64 p.kind) ∧ w'.cell? ⟨b, o + 2, none⟩ = some (.int .u64 (p.uint : Int)) ∧ w'.cell? ⟨b, o + 3, none⟩ = some (.int .i64 p.int) ∧
    w'.cell? ⟨b, o + 4, none⟩ = some (.float .f32 p.real) ∧ w'.cell? ⟨b, o + 5, none⟩ = some (.string p.text) ∧ w'.cell? ⟨b, o + 6, none⟩ = some u ∧ Keep [] w w' :=
  ⟨k.cell' h.on (by simp), k.cell' h.kind (by simp), k.cell' h.uint (by simp), k.cell' h.int (by simp), k.cell' h.real (by simp), k.cell' h.text (by simp), k.cell' h.raw (by simp), k⟩
theorem put_keep {w w' : World} {A B C D E F G : Prop} (h : A ∧ B ∧ C ∧ D ∧ E ∧ F ∧ G ∧ Keep [] w w') : Keep [] w w' := h.2.2.2.2.2.2.2

theorem two_start {w w' : World} {b o i ge : Nat} {p : PutD} {u ev v : Value} {es : List Int} {L l1 l2 : List UInt8} {b1 b2 : Nat} {r1 r2 : Option Nat} {E : Int} (h : PutC w b o p u) (hr : ∀ w', RowI w' ev es → w'.cell? ⟨ge, i, none⟩ = some (.int .i64 E)) (k : Inv2 w w' ev v es L b1 r1 b2 r2 l1 l2) :
    w'.cell? ⟨b, o, none⟩ = some (.int .i64 p.on) ∧ w'.cell? ⟨b, o + 1, none⟩ = some (.int .i64 p.kind) ∧ w'.cell? ⟨b, o + 2, none⟩ = some (.int .u64 (p.uint : Int)) ∧ w'.cell? ⟨b, o + 3, none⟩ = some (.int .i64 p.int) ∧
    w'.cell? ⟨b, o + 4, none⟩ = some (.float .f32 p.real) ∧ w'.cell? ⟨b, o + 5, none⟩ = some (.string p.text) ∧ w'.cell? ⟨b, o + 6, none⟩ = some u ∧ w'.cell? ⟨ge, i, none⟩ = some (.int .i64 E) := by
  obtain ⟨h0, h1, h2, h3, h4, h5, h6, _⟩ := put_start h k.keep
  exact ⟨h0, h1, h2, h3, h4, h5, h6, hr _ k.row⟩

set_option maxRecDepth 1000000 in
set_option maxHeartbeats 25600000 in
theorem there_law (a0 b0 : Option Addr) (ca cb : Nat) (ps : List PutD) (more : List UInt8) (cut : Int) (w : World) (hps : Puts w (.slice a0 ps.length ca) ps) (hmo : Bs w (.slice b0 more.length cb) more)
    (hsz : ∀ p ∈ ps, p.text.size ≤ 1048576 ∧ p.raw.length ≤ 1048576) (hml : more.length ≤ 1048576) (hc0 : -9223372036854775808 ≤ cut) (hc1 : cut ≤ 9223372036854775807) :
    Calls Try.prog 7 #[.slice a0 ps.length ca, .slice b0 more.length cb, .int .i64 cut] w fun e w' => e = .returned (.bool true) ∧ Below w.heap.size w w' := by
  have hT := tooMuch_any _ ps w hps (fun p hp => ⟨by have := hsz p hp; omega, by have := hsz p hp; omega⟩)
  obtain ⟨ao, cap, he, hlc, hcm, hex⟩ := hps.ex
  simp at he
  obtain ⟨rfl, rfl⟩ := he
  by_cases hbig : 1073741824 < bulkAll ps
  · rw [show decide (1073741824 < bulkAll ps) = true by simpa using hbig] at hT
    clear hex hps hmo
    go_enter Try.func7, Try.ntmps7
    go_wp2_with fail
    refine hT.mono ?_
    rintro e1 w1 ⟨rfl, n1, rfl⟩
    have HK : Hid (Below w.heap.size w (w.drewN n1)) := ((Keep.refl [] w).drewN n1).below
    clear hT
    go_wp2
    go_ret
    exact ⟨rfl, HK.out⟩
  rw [show decide (1073741824 < bulkAll ps) = false by simpa using hbig] at hT
  have hlen16 := bulkAll_len ps
  have hok := hps.ok
  have hbl := bytesAll_len ps hok
  have hpn : ps.length ≤ 67108864 := by omega
  have HEX : Hid (ps ≠ [] → ∃ b o, a0 = some ⟨b, o, none⟩ ∧ ∀ i (h : i < ps.length), PutAt w b (o + i * 7) ps[i]) := hex
  have HP : Hid (Puts w (.slice a0 ps.length ca) ps ∧ (∀ p ∈ ps, p.Ok) ∧ bulkAll ps ≤ 1073741824) := ⟨hps, hok, by omega⟩
  have HM : Hid (Bs w (.slice b0 more.length cb) more) := hmo
  clear hex hps hmo hok hlen16 hbig
  go_enter Try.func7, Try.ntmps7
  go_wp2_with fail
  refine hT.mono ?_
  rintro e1 w1 ⟨rfl, n1, rfl⟩
  have K1 : Keep [] w (w.drewN n1) := (Keep.refl [] w).drewN n1
  clear hT
  generalize w.drewN n1 = w1 at K1 ⊢
  go_wp2_with fail
  refine (awake_any w1).mono ?_
  rintro e2 w2 ⟨rfl, K2⟩
  have K2' := K1.trans' K2
  clear K1 K2
  have I0 : Inv1 w (w2.alloc (.cells #[.slice none 0 0] 28)) w2.heap.size [] none (.slice none 0 0) [] :=
    ⟨Wr.zero _ _ _ (by simp) (by simp), RowI.nil _, K2'.alloc _, K2'.size, by simp, fun _ h => (by cases h), fun _ h => (by simp [Value.ownBlock] at h), fun _ h => (by simp [Value.ownBlock] at h)⟩
  have HI0 : Hid (Inv1 w (w2.alloc (.cells #[.slice none 0 0] 28)) w2.heap.size [] none (.slice none 0 0) []) := I0
  clear I0 K2'
  go_wp2
  generalize w2.heap.size = g at HI0 ⊢
  generalize w2.alloc (.cells #[.slice none 0 0] 28) = w3 at HI0 ⊢
  go_loopw [8, 9] (fun ev iv wr => ∃ (i : Nat) (rb : Option Nat), iv = .int .i64 (i : Int) ∧ i ≤ ps.length ∧ Inv1 w wr g (bytesAll (ps.take i)) rb ev (endsL ps i)) (fun _ iv _ => ps.length - (intOf iv).toNat)
  case atStart => exact ⟨0, none, rfl, Nat.zero_le _, HI0.out⟩
  case round =>
    obtain ⟨i, rb, rfl, hi, hI⟩ := hrel
    clear HI0
    by_cases hil : i < ps.length
    · have hili : (i : Int) < (ps.length : Int) := by omega
      obtain ⟨b, o, rfl, hat⟩ := HEX.out (by intro hz; rw [hz] at hil; simp at hil)
      have hA := hat i hil
      have hpok := HP.out.2.1 ps[i] (List.getElem_mem hil)
      have hpz := hsz ps[i] (List.getElem_mem hil)
      have hstep := bytes_step ps i hil
      have hbs := bulk_step ps i hil
      have hbt := bulk_take_le ps (i + 1)
      have hb2 := bytesAll_len (ps.take i) (fun p hp => HP.out.2.1 p (List.mem_of_mem_take hp))
      have HES : Hid (endsL ps (i + 1) = endsL ps i ++ [((bytesAll (ps.take (i + 1))).length : Int)]) := endsL_succ ps i
      have HEL : Hid ((endsL ps i).length = i) := endsL_len ps i
      have hbk := HP.out.2.2
      generalize ps[i] = p at hA hpok hpz hstep hbs
      obtain ⟨u, c6, hu⟩ := hA.raw
      have hC : PutC w b (o + i * 7) p u := ⟨hA.on, hA.kind, hA.uint, hA.int, hA.real, hA.text, c6⟩
      generalize hL : bytesAll (ps.take i) = L at hI hstep hb2
      have HL : Hid (L.length + p.bulk ≤ 1073741824 ∧ p.raw.length ≤ 1048576 ∧ L.length ≤ 1073741824) := ⟨by omega, hpz.2, by omega⟩
      have HST : Hid (bytesAll (ps.take (i + 1)) = L ++ p.bytes) := hstep
      have HI : Hid (Inv1 w wr g L rb u8 (endsL ps i)) := hI
      have HU : Hid (Bs w u p.raw ∧ p.Ok) := ⟨hu, hpok⟩
      have HC : Hid (PutC w b (o + i * 7) p u) := hC
      obtain ⟨c0, c1, c2, c3, c4, c5, c6, _⟩ := put_start hC hI.keep
      clear hA hpz hbs hbt hb2 hbk hL hI hu hpok hat hstep hC
      go_wp2
      go_region_held3 (fun w' => w'.cell? ⟨b, o + i * 7, none⟩ = some (.int .i64 p.on) ∧ w'.cell? ⟨b, o + i * 7 + 1, none⟩ = some (.int .i64 p.kind) ∧ w'.cell? ⟨b, o + i * 7 + 2, none⟩ = some (.int .u64 (p.uint : Int)) ∧ w'.cell? ⟨b, o + i * 7 + 3, none⟩ = some (.int .i64 p.int) ∧ w'.cell? ⟨b, o + i * 7 + 4, none⟩ = some (.float .f32 p.real) ∧ w'.cell? ⟨b, o + i * 7 + 5, none⟩ = some (.string p.text) ∧ w'.cell? ⟨b, o + i * 7 + 6, none⟩ = some u ∧ Keep [] w w')
        (first | exact put_start HC.out (Keep.drew HI.out.keep) | exact put_start HC.out (wrote_keep HI.out K5 W6) | exact put_start HC.out (Keep.trans' (put_keep (by assumption)) (by assumption)))
        (first
          | (go_at_call 37; refine (copy_any _ p.raw _ (HU.out.1.keep (put_keep (by assumption)) (Off.nil _)) (by have := HL.out; omega)).mono ?_; rintro e5 w5 ⟨v5, rfl, R5, F5, K5⟩)
          | (go_at_call 12; refine (write_any g 0 L rb p HU.out.2 u _ w5 (HI.out.same (((Keep.refl [] _).drew).trans' K5)).out R5.bs (by have := HL.out; omega)).mono ?_; rintro e6 w6 ⟨rfl, W6⟩))
      rename_i hH
      clear hH c0 c1 c2 c3 c4 c5 c6
      obtain ⟨rb6, I6⟩ := (HI.out.same (((Keep.refl [] _).drew).trans' K5)).write W6
      have HL6 : Hid ((L ++ p.bytes).length ≤ 1073741824) := by
        have h1 := HL.out.1
        have h2 := p.bytes_len HU.out.2
        show (L ++ p.bytes).length ≤ 1073741824
        rw [List.length_append]
        omega
      clear W6 K5 R5 F5 HI HU HC
      rw [← HST.out] at I6 HL6
      clear HST HL
      have hBy := wBytes_any g 0 _ rb6 w6 I6.out (by have := HL6.out; omega)
      have HI6 : Hid (Inv1 w w6 g (bytesAll (ps.take (i + 1))) rb6 u8 (endsL ps i)) := I6
      clear I6
      go_wp2_with fail
      refine hBy.mono ?_
      rintro e7 w7 ⟨v7, rfl, _, _, K7, S7⟩
      obtain ⟨a7, c7, rfl⟩ := S7
      have I7 := HI6.out.same K7
      clear HI6 hBy K7
      have hr7 : RowI (w7.alloc (.cells #[.int .i64 ((bytesAll (ps.take (i + 1))).length : Int)] TI)) u8 (endsL ps i) := I7.row.keep (Keep.alloc1 w7 _) (Off.nil _)
      have hs7 := srcI w7 ((bytesAll (ps.take (i + 1))).length : Int)
      have HB : Hid ((endsL ps i).length + [((bytesAll (ps.take (i + 1))).length : Int)].length ≤ 17592186044416) := by
        show (endsL ps i).length + [((bytesAll (ps.take (i + 1))).length : Int)].length ≤ 17592186044416
        have := HEL.out
        simp only [List.length_cons, List.length_nil]
        omega
      have HI7 : Hid (Inv1 w w7 g (bytesAll (ps.take (i + 1))) rb6 u8 (endsL ps i)) := I7
      have hlen9 : ((bytesAll (ps.take (i + 1))).length : Int) ≤ 1073741824 := by have := HL6.out; omega
      have HX : Hid (((bytesAll (ps.take (i + 1))).length : Int) = ((bytesAll (ps.take (i + 1))).length : Int)) := rfl
      clear I7
      go_wp2_with (at_builtin; refine wp_appI rfl (.tmp 38) (.tmp 41) 69 69 rfl underI _ (endsL ps i) rfl hr7 _ [((bytesAll (ps.take (i + 1))).length : Int)] rfl hs7 HB.out ?_)
      intro v8 w8 g1 g2 g3 g4
      have HI8 : Hid (Inv1 w w8 g (bytesAll (ps.take (i + 1))) rb6 v8 (endsL ps (i + 1))) := by
        show Inv1 w w8 g (bytesAll (ps.take (i + 1))) rb6 v8 (endsL ps (i + 1))
        rw [HES.out]
        exact HI7.out.app g1 g2 g3
      clear g1 g2 g3 g4 hs7 hr7 HI7 HX
      go_wp2
      go_roundw
      case rel => exact ⟨i + 1, rb6, by go_num, by omega, HI8.out⟩
      case measure => simp [intOf]; omega
    · have hili : ¬ ((i : Int) < (ps.length : Int)) := by omega
      have hin : i = ps.length := by omega
      subst hin
      rw [List.take_length] at hI
      generalize hL : bytesAll ps = L at hI hbl
      have hLl : L.length ≤ 1073741824 := by have := HP.out.2.2; omega
      have hBy := wBytes_any g 0 L rb wr hI.out (by omega)
      go_wp2_with fail
      refine hBy.mono ?_
      rintro e4 w4 ⟨v4, rfl, R4, F4, K4, S4⟩
      have I4 := hI.same K4
      have O4 : Off v4 (g :: rb.toList) := fun x hx hm => by
        have h1 := (F4 x hx).1
        simp at hm
        rcases hm with hm | hm
        · have := hI.gl
          omega
        · have := hI.out.rlt x hm
          omega
      clear hI hBy K4 F4
      go_wp2_with fail
      refine (copy_any _ more w4 (HM.out.keep I4.keep (Off.nil _)) (by omega)).mono ?_
      rintro e5 w5 ⟨v5, rfl, R5, F5, K5⟩
      have I5 := I4.same K5
      have R45 := R4.keep K5 (Off.nil _)
      have C5 := R5.bs
      clear I4 R4 R5 F5 K5
      go_wp2_with fail
      refine (wRaw_any g 0 L more rb v5 w5 I5.out C5 (by omega)).mono ?_
      rintro e6 w6 ⟨rfl, W6⟩
      have B6 : Row w6 v4 L := by
        obtain ⟨_, _, h2, _⟩ := W6
        exact R45.keep h2 O4
      obtain ⟨rb6, I6⟩ := I5.write W6
      clear W6 I5 R45 C5 O4
      have hRd := Read_any v4 L w6 B6.bs (by omega)
      go_wp2_with fail
      refine hRd.mono ?_
      rintro e7 w7 ⟨b1, r1, rfl, D7, hb7, hr7, K7⟩
      have I7 := I6.same K7
      have B7 := B6.keep K7 (Off.nil _)
      have hvb : Off v4 [b1] := fun x hx hm => by have := B6.lt x hx; simp at hm; omega
      have heb : Off u8 [b1] := fun x hx hm => by have := I6.row.lt x hx; simp at hm; omega
      have hn7 : w.heap.size ≤ b1 := Nat.le_trans I6.keep.size hb7
      clear I6 B6 hRd K7 hb7 hr7
      have hB8 := wBytes_any g 0 (L ++ more) rb6 w7 I7.out (by simp; omega)
      go_wp2_with fail
      refine hB8.mono ?_
      rintro e8 w8 ⟨v8, rfl, R8, F8, K8, S8⟩
      have I8 := I7.same K8
      have B8 := B7.keep K8 (Off.nil _)
      have D8 := rd_from D7 K8
      have C8 := R8.bs
      clear I7 B7 hB8 D7 R8 F8 K8 S8
      have hR9 := Read_any v8 (L ++ more) w8 C8 (by simp; omega)
      go_wp2_with fail
      refine hR9.mono ?_
      rintro e9 w9 ⟨b2, r2, rfl, D9, hb9, hr9, K9⟩
      have I9 := I8.same K9
      have HJ : Hid (Inv2 w w9 u8 v4 (endsL ps ps.length) L b1 r1 b2 r2 L (L ++ more)) := by
        refine ⟨rd_from D8 K9, D9, I9.row, B8.keep K9 (Off.nil _), I9.keep, hn7, Nat.le_trans I8.keep.size hb9, ?_, ?_, ?_, ?_, ?_⟩
        · have := D8.blt; omega
        · intro h; have := D8.lt _ h; omega
        · intro h; have := hr9 _ h; have := D8.blt; omega
        · intro x hx hm
          have h1 := heb x hx
          have h2 := I8.row.lt x hx
          simp at hm h1
          omega
        · intro x hx hm
          have h1 := hvb x hx
          have h2 := B8.lt x hx
          simp at hm h1
          omega
      clear I8 I9 D8 D9 C8 B8 hR9 K9 hb9 hr9 hvb heb hn7
      obtain ⟨a4, c4, rfl⟩ := S4
      go_wp2
      go_loopw [13] (fun iv wr => ∃ (i : Nat), iv = .int .i64 (i : Int) ∧ i ≤ ps.length ∧ Inv2 w wr u8 (.slice a4 L.length c4) (endsL ps ps.length) L b1 r1 b2 r2 (bytesAll (ps.drop i)) (bytesAll (ps.drop i) ++ more)) (fun iv _ => ps.length - (intOf iv).toNat)
      case atStart => exact ⟨0, rfl, Nat.zero_le _, by rw [List.drop_zero, hL]; exact HJ.out⟩
      case round =>
        obtain ⟨i, rfl, hi2, hJ⟩ := hrel
        clear HJ
        by_cases hil2 : i < ps.length
        · have hili2 : (i : Int) < (ps.length : Int) := by omega
          obtain ⟨b, o, rfl, hat⟩ := HEX.out (by intro hz; rw [hz] at hil2; simp at hil2)
          have hA := hat i hil2
          have hpok := HP.out.2.1 ps[i] (List.getElem_mem hil2)
          have hpz := hsz ps[i] (List.getElem_mem hil2)
          have hdr := bytes_drop ps i hil2
          have hst := bytes_step ps i hil2
          have hct := bytes_cut ps i
          have hen := endsL_get ps ps.length i (by rw [endsL_len]; exact hil2)
          generalize ps[i] = p at hA hpok hpz hdr hst
          obtain ⟨u, c6, hu⟩ := hA.raw
          have hC : PutC w b (o + i * 7) p u := ⟨hA.on, hA.kind, hA.uint, hA.int, hA.real, hA.text, c6⟩
          rw [hdr] at hJ
          have hlenR : (L.length : Int) - ((bytesAll (ps.take (i + 1))).length : Int) = ((bytesAll (ps.drop (i + 1))).length : Int) := by
            rw [hst, ← hL, hct, hdr]
            simp only [List.length_append]
            omega
          have hlb : (p.bytes ++ bytesAll (ps.drop (i + 1))).length ≤ 1073741824 := by
            have h1 := hLl
            rw [← hL, hct, hdr, List.length_append] at h1
            omega
          generalize hRR : bytesAll (ps.drop (i + 1)) = R at hJ hlenR hlb
          generalize hEE : ((bytesAll (ps.take (i + 1))).length : Int) = E at hen hlenR
          obtain ⟨ge, ce, rfl, hce, hcm2, hrow⟩ := hJ.row.at ps.length i (endsL_len _ _) (by rw [endsL_len]; exact hil2)
          rw [hen] at hrow
          have HJ : Hid (Inv2 w wr (.slice (some ⟨ge, 0, none⟩) ps.length ce) (.slice a4 L.length c4) (endsL ps ps.length) L b1 r1 b2 r2 (p.bytes ++ R) (p.bytes ++ R ++ more)) := hJ
          have HRow : Hid (∀ w', RowI w' (.slice (some ⟨ge, 0, none⟩) ps.length ce) (endsL ps ps.length) → w'.cell? ⟨ge, i, none⟩ = some (.int .i64 E)) := hrow
          have HC : Hid (PutC w b (o + i * 7) p u) := hC
          have HU : Hid (Bs w u p.raw ∧ p.Ok ∧ p.raw.length ≤ 1048576 ∧ (p.bytes ++ R).length ≤ 1073741824 ∧ (p.bytes ++ (R ++ more)).length ≤ 140737488355328) := ⟨hu, hpok, hpz.2, hlb, by simp only [List.length_append] at hlb ⊢; omega⟩
          have HRR : Hid (bytesAll (ps.drop (i + 1)) = R) := hRR
          have c8 := hrow wr hJ.row
          have hne : ((R.length : Int) != (L.length : Int) - E) = false := by
            rw [hlenR]
            simp
          have hne2 : ((R.length : Int) != IntKind.i64.wrap ((L.length : Int) - E)) = false := by
            have h1 : R.length ≤ 1073741824 := by simp only [List.length_append] at hlb; omega
            rw [hlenR, IntKind.wrap_i64]
            simp only [bne_eq_false_iff_eq]
            omega
          have hEr : 0 ≤ E ∧ E ≤ 1073741824 := by
            have h1 : (R.length : Int) ≥ 0 := by omega
            have h2 : E ≥ 0 := by rw [← hEE]; omega
            omega
          obtain ⟨c0, c1, c2, c3, c4', c5, c6', _⟩ := put_start hC hJ.keep
          clear hA hpok hpz hdr hst hct hen c6 hu hC hJ hrow hEE hRR hlb hat hlenR
          go_wp2
          go_region_held3 (fun w' => w'.cell? ⟨b, o + i * 7, none⟩ = some (.int .i64 p.on) ∧ w'.cell? ⟨b, o + i * 7 + 1, none⟩ = some (.int .i64 p.kind) ∧ w'.cell? ⟨b, o + i * 7 + 2, none⟩ = some (.int .u64 (p.uint : Int)) ∧ w'.cell? ⟨b, o + i * 7 + 3, none⟩ = some (.int .i64 p.int) ∧ w'.cell? ⟨b, o + i * 7 + 4, none⟩ = some (.float .f32 p.real) ∧ w'.cell? ⟨b, o + i * 7 + 5, none⟩ = some (.string p.text) ∧ w'.cell? ⟨b, o + i * 7 + 6, none⟩ = some u ∧ w'.cell? ⟨ge, i, none⟩ = some (.int .i64 E))
            (first | exact two_start HC.out HRow.out (HJ.out.same ((Keep.refl [] _).drew)) | exact two_start HC.out HRow.out ((HJ.out.same ((Keep.refl [] _).drew)).back1 K5 D5) | exact two_start HC.out HRow.out (((HJ.out.same ((Keep.refl [] _).drew)).back1 K5 D5).back2 K6 D6))
            (first
              | (go_at_call_of 39 b1; refine (back_whole b1 0 R r1 p HU.out.2.1 u _ (HJ.out.same ((Keep.refl [] _).drew)).d1 (HU.out.1.keep (HJ.out.same ((Keep.refl [] _).drew)).keep (Off.nil _)) (off_new HU.out.1 HJ.out.n1) (by have := HU.out.2.2.2.1; omega) (by have := HU.out.2.2.1; omega)).mono ?_; rintro e5 w5 ⟨rfl, D5, K5⟩)
              | (go_at_call_of 39 b2; refine (back_whole b2 0 (R ++ more) r2 p HU.out.2.1 u _ (by have := ((HJ.out.same ((Keep.refl [] _).drew)).back1 K5 D5).d2; rw [List.append_assoc] at this; exact this) (HU.out.1.keep ((HJ.out.same ((Keep.refl [] _).drew)).back1 K5 D5).keep (Off.nil _)) (off_new HU.out.1 HJ.out.n2) HU.out.2.2.2.2 (by have := HU.out.2.2.1; omega)).mono ?_; rintro e6 w6 ⟨rfl, D6, K6⟩)
              | (go_at_call 22; refine (left_any b1 0 R 0 r1 _ (((HJ.out.same ((Keep.refl [] _).drew)).back1 K5 D5).back2 K6 D6).d1).mono ?_; rintro e7 w7 ⟨rfl, hw7⟩; obtain rfl := hw7.symm))
          rename_i hH
          clear hH c0 c1 c2 c3 c4' c5 c6' c8
          have HJ6 : Hid (Inv2 w w6 (.slice (some ⟨ge, 0, none⟩) ps.length ce) (.slice a4 L.length c4) (endsL ps ps.length) L b1 r1 b2 r2 R (R ++ more)) := ((HJ.out.same ((Keep.refl [] _).drew)).back1 K5 D5).back2 K6 D6
          clear D5 K5 D6 K6 HJ HRow HC HU
          go_wp2
          go_roundw
          case rel => exact ⟨i + 1, by go_num, by omega, by rw [HRR.out]; exact HJ6.out⟩
          case measure => simp [intOf]; omega
        · have hili2 : ¬ ((i : Int) < (ps.length : Int)) := by omega
          have hin2 : i = ps.length := by omega
          subst hin2
          rw [List.drop_length] at hJ
          simp only [bytesAll, List.nil_append] at hJ
          have hE1 := end_any b1 0 [] 0 r1 wr hJ.d1
          have hR1 := err_any b1 0 [] 0 r1 wr hJ.d1
          have hL2 := left_any b2 0 more 0 r2 wr hJ.d2
          have hR2 := err_any b2 0 more 0 r2 wr hJ.d2
          have hE2 := end_any b2 0 more 0 r2 wr hJ.d2
          rw [show endE [] 0 = 0 from rfl] at hE1
          have hq : ((endE more 0 == 23) != decide ((0 : Int) < (more.length : Int))) = false := by
            unfold endE
            cases more with
            | nil => rfl
            | cons x l =>
              rw [if_pos rfl, if_neg (by simp)]
              simp
          have hq2 : ((endE more 0 == 23) == decide (0 < more.length)) = true := by
            unfold endE
            cases more with
            | nil => rfl
            | cons x l =>
              rw [if_pos rfl, if_neg (by simp)]
              simp
          have hq3 : (!((endE more 0 == 23) == decide (0 < more.length))) = false := by rw [hq2]; rfl
          generalize endE more 0 = ee at hE2 hq hq2 hq3
          have HJ : Hid (Inv2 w wr u8 (.slice a4 L.length c4) (endsL ps ps.length) L b1 r1 b2 r2 [] more) := hJ
          clear hJ
          by_cases hL0 : L = []
          · have hl0 : ((L.length : Int) == 0) = true := by rw [hL0]; rfl
            go_wp2_with (first
            | (go_at_call_of 23 b1; refine hE1.mono ?_; rintro e5 w5 ⟨rfl, hw5⟩; obtain rfl := hw5.symm)
            | (go_at_call_of 21 b1; refine hR1.mono ?_; rintro e5 w5 ⟨rfl, hw5⟩; obtain rfl := hw5.symm)
            | (go_at_call_of 22 b2; refine hL2.mono ?_; rintro e5 w5 ⟨rfl, hw5⟩; obtain rfl := hw5.symm)
            | (go_at_call_of 21 b2; refine hR2.mono ?_; rintro e5 w5 ⟨rfl, hw5⟩; obtain rfl := hw5.symm)
            | (go_at_call_of 23 b2; refine hE2.mono ?_; rintro e5 w5 ⟨rfl, hw5⟩; obtain rfl := hw5.symm))
            go_ret
            exact ⟨rfl, HJ.out.keep.below⟩
          · have hlp : 0 < L.length := List.length_pos_iff.2 hL0
            have hl0 : ((L.length : Int) == 0) = false := by simp only [beq_eq_false_iff_ne]; omega
            obtain ⟨gb, rfl, hc4, hc4m⟩ : ∃ gb, a4 = some ⟨gb, 0, none⟩ ∧ L.length ≤ c4 ∧ c4 ≤ 9223372036854775807 := by
              rcases HJ.out.bs.2 with ⟨h, _⟩ | ⟨gb, cap, cur, h, _, _, hnc, hcm, _⟩
              · simp at h
                omega
              · simp at h
                obtain ⟨rfl, rfl⟩ := h
                simp only [maxLen] at hcm
                exact ⟨gb, rfl, hnc, by omega⟩
            have hPk := pick_any cut (L.length : Int) hc0 hc1 (by omega) wr
            obtain ⟨n, hn, hnl⟩ : ∃ n : Nat, pickZ cut (L.length : Int) = (n : Int) ∧ n < L.length := by
              have := pickZ_lt cut L.length hlp
              exact ⟨(pickZ cut (L.length : Int)).toNat, by omega, by omega⟩
            rw [hn] at hPk
            have hnc0 : (0 : Int) ≤ (n : Int) := by omega
            have hnc1 : (n : Int) ≤ (c4 : Int) := by omega
            have hB5 : Bs wr (.slice (some ⟨gb, 0, none⟩) n c4) (L.take n) := HJ.out.bs.bs.take n (by omega)
            have hcp := copy_any _ (L.take n) wr hB5 (by simp; omega)
            clear hB5 hn
            go_wp2_with (first
              | (go_at_call 10; refine hPk.mono ?_; rintro e5 w5 ⟨rfl, hw5⟩; obtain rfl := hw5.symm)
              | (go_at_call 37; refine hcp.mono ?_; rintro e5 w5' ⟨v5', rfl, R5, F5, K5⟩; have C5 := R5.bs)
              | (go_at_call 19; refine (Read_any v5' (L.take n) w5' C5 (by simp; omega)).mono ?_; rintro e6 w6' ⟨b3, r3, rfl, D6, hb6, hr6, K6⟩)
              | (first
            | (go_at_call_of 23 b1; refine hE1.mono ?_; rintro e5 w5 ⟨rfl, hw5⟩; obtain rfl := hw5.symm)
            | (go_at_call_of 21 b1; refine hR1.mono ?_; rintro e5 w5 ⟨rfl, hw5⟩; obtain rfl := hw5.symm)
            | (go_at_call_of 22 b2; refine hL2.mono ?_; rintro e5 w5 ⟨rfl, hw5⟩; obtain rfl := hw5.symm)
            | (go_at_call_of 21 b2; refine hR2.mono ?_; rintro e5 w5 ⟨rfl, hw5⟩; obtain rfl := hw5.symm)
            | (go_at_call_of 23 b2; refine hE2.mono ?_; rintro e5 w5 ⟨rfl, hw5⟩; obtain rfl := hw5.symm)))
            have HJ3 : Hid (Inv3 w w6' u8 (endsL ps ps.length) b3 r3 (L.take n) 0) := by
              refine ⟨D6, (HJ.out.row.keep K5 (Off.nil _)).keep K6 (Off.nil _), (HJ.out.keep.trans' K5).trans' K6, Nat.le_trans (Nat.le_trans HJ.out.keep.size K5.size) hb6, fun x hx hm => ?_⟩
              have h1 := HJ.out.row.lt x hx
              have h2 := K5.size
              simp at hm
              omega
            clear D6 hb6 hr6 K6 C5 R5 F5 K5 HJ hcp hPk hE1 hR1 hL2 hR2 hE2 hq hq2 hq3
            go_loopw [16] (fun iv wr => ∃ (i : Nat), iv = .int .i64 (i : Int) ∧ i ≤ ps.length ∧ (bytesAll (ps.take i)).length ≤ n ∧ Inv3 w wr u8 (endsL ps ps.length) b3 r3 ((L.take n).drop (bytesAll (ps.take i)).length) 0) (fun iv _ => ps.length - (intOf iv).toNat)
            case atStart => exact ⟨0, rfl, Nat.zero_le _, by simp [bytesAll], by simpa [bytesAll] using HJ3.out⟩
            case round =>
              obtain ⟨i, rfl, hi3, hin3, hJ⟩ := hrel
              clear HJ3
              by_cases hil3 : i < ps.length
              · have hili3 : (i : Int) < (ps.length : Int) := by omega
                obtain ⟨b, o, rfl, hat⟩ := HEX.out (by intro hz; rw [hz] at hil3; simp at hil3)
                have hA := (hat i hil3).keep hJ.keep
                have hA0 := hat i hil3
                have hpok := HP.out.2.1 ps[i] (List.getElem_mem hil3)
                have hpz := hsz ps[i] (List.getElem_mem hil3)
                have hpb := (ps[i]).bytes_len hpok
                have hen := endsL_get ps ps.length i (by rw [endsL_len]; exact hil3)
                have hcs := cut_step ps i n hil3
                have hcs2 := cut_short ps i n hil3 hin3
                rw [hL] at hcs hcs2
                generalize ps[i] = p at hA hA0 hpok hpz hcs hcs2 hpb
                obtain ⟨ge, ce, rfl, hce, hcm2, hrow⟩ := hJ.row.at ps.length i (endsL_len _ _) (by rw [endsL_len]; exact hil3)
                have c8 := hrow _ hJ.row
                rw [hen] at c8
                generalize hEE : (bytesAll (ps.take (i + 1))).length = E at c8 hcs hcs2
                obtain ⟨u, c6, hu⟩ := hA.raw
                obtain ⟨u', c6', hu'⟩ := hA0.raw
                obtain rfl : u' = u := by
                  have := hJ.keep.cell' c6' (by simp)
                  rw [c6] at this
                  simpa using this.symm
                have c0 := hA.on
                have c1 := hA.kind
                have c2 := hA.uint
                have c3 := hA.int
                have c4' := hA.real
                have c5 := hA.text
                have hoff := off_new hu' hJ.n
                have hpb2 : p.bytes.length ≤ 140737488355328 := by unfold PutD.bulk at hpb; omega
                have HK : Hid (PutC w b (o + i * 7) p u') := ⟨hA0.on, hA0.kind, hA0.uint, hA0.int, hA0.real, hA0.text, c6'⟩
                by_cases hEn : E ≤ n
                · have hEni : (E : Int) ≤ (n : Int) := by omega
                  rw [hcs hEn] at hJ
                  have hbw := back_whole b3 0 ((L.take n).drop E) r3 p hpok u' _ hJ.d hu hoff (by
                    have h1 := congrArg List.length (hcs hEn)
                    simp only [List.length_append, List.length_drop, List.length_take] at h1 ⊢
                    omega) (by omega)
                  have HJ4 : Hid (Inv3 w wr (.slice (some ⟨ge, 0, none⟩) ps.length ce) (endsL ps ps.length) b3 r3 (p.bytes ++ (L.take n).drop E) 0) := hJ
                  clear hJ hcs hcs2 hA hA0 hu hu' hrow hat hoff hpok hpz hpb hen c6'
                  go_wp2_with (first
                    | (go_at_call 39; refine hbw.mono ?_; rintro e7 w7' ⟨rfl, D7, K7⟩; have hE7 := err_any b3 0 _ 0 r3 w7' D7)
                    | (go_at_call 21; refine hE7.mono ?_; rintro e8 w8' ⟨rfl, hw8⟩; obtain rfl := hw8.symm))
                  go_roundw
                  case rel => exact ⟨i + 1, by go_num, by omega, by rw [hEE]; exact hEn, by rw [hEE]; exact HJ4.out.back K7 D7⟩
                  case measure => simp [intOf]; omega
                · have hEni : ¬ ((E : Int) ≤ (n : Int)) := by omega
                  obtain ⟨hm, hcut⟩ := hcs2 (by omega)
                  rw [hcut] at hJ
                  have hbs := back_short b3 0 _ r3 p hpok u' _ hm hJ.d hu hoff hpb2
                  have HJ4 : Hid (Inv3 w wr (.slice (some ⟨ge, 0, none⟩) ps.length ce) (endsL ps ps.length) b3 r3 (p.bytes.take (n - (bytesAll (ps.take i)).length)) 0) := hJ
                  clear hJ hcs hcs2 hA hA0 hu hu' hrow hat hoff hpok hpz hpb hen c6' hcut
                  generalize n - (bytesAll (ps.take i)).length = m at hbs hm HJ4
                  go_wp2_with (first
                    | (go_at_call 39; refine hbs.mono ?_; rintro e7 w7' ⟨⟨x7, rfl⟩, D7, K7⟩; have hE7 := err_any b3 0 _ 20 r3 w7' D7; have hN7 := end_any b3 0 _ 20 r3 w7' D7; rw [show endE (p.bytes.take m) 20 = 20 from rfl] at hN7)
                    | (go_at_call 21; refine hE7.mono ?_; rintro e8 w8' ⟨rfl, hw8⟩; obtain rfl := hw8.symm)
                    | (go_at_call 23; refine hN7.mono ?_; rintro e8 w8' ⟨rfl, hw8⟩; obtain rfl := hw8.symm))
                  go_ret
                  exact ⟨rfl, (HJ4.out.back K7 D7).keep.below⟩
              · exfalso
                rw [List.take_of_length_le (by omega), hL] at hin3
                omega

end Go.Proofs.Ytcmembmaaebdeaa
