import Derived.Test.YtjcnhegjiffgpaaGreatDoorCtA
set_option linter.unusedSimpArgs false
set_option linter.unusedVariables false
set_option maxRecDepth 100000
namespace Go.Proofs.YtjcnhegjiffgpaaGreatDoor
open Go.Lift Tryz
def Tz0:LT:=lT [(4,[0,3]),(9,[0,3,4])]
noncomputable def Ez0:=eN tab []
noncomputable def QFR (v:Y86):St:=⟨[sV 0 VN v.1,sV 3 Z2 v.2.1,sV 4 Z2 v.2.2],[],[],4096⟩
noncomputable def wO (v:ZE):St:=⟨[sV 0 VN v.1,sV 3 Z2 v.2],[],[],4096⟩
def MC (BM:ZE->Option Bool) (BQ:Y86->Option Bool) (v:Y86):Option Bool:=
 (BX v.1 v.2.1).bind λx2=>bif decide (v.2.2 < (x2.2.2.2.1.length:Int)) then (BX v.1 v.2.1).bind λx3=>((BX x3.2.2.2.1 v.2.2).bind λx4=>bif decide ((x4.1.length:Int) > 100) then some true else let x5:Int:=IntKind.i64.wrap (v.2.2+1);BQ (v.1,v.2.1,x5)) else let x6:Int:=IntKind.i64.wrap (v.2.1+1);BM (v.1,x6)
def GX (N:Nat) (BM:ZE->Option Bool) (BQ:Y86->Option Bool) (v:Y86):Option Bool:=MC BM BQ v
theorem QYt (N:Nat) (s0) (s1) (v):(Bc Ez0 Tz0 6 N f41 [.bool] [false] [] 1 (CS s0 BN)) s1 (QFR v)=GX N (λv=>s0 (wO v)) (λv=>s1 (QFR v)) v:=by kernel_rfl
def FN (Ca:Y86->Option Bool) (BM:ZE->Option Bool) (v:ZE):Option Bool:=
 bif decide (v.2 < (v.1.length:Int)) then (BX v.1 v.2).bind λx1=>bif decide ((x1.2.2.2.1.length:Int) > 20) then some true else Ca (v.1,v.2,(0:Int)) else some false
def I8 (N:Nat) (BM:ZE->Option Bool) (v:ZE):Option Bool:=FN (BP (GX N BM) N) BM v
theorem QYs (N:Nat) (s0) (v):(Bc Ez0 Tz0 6 N f41 [.bool] [false] [] 0 BN) s0 (wO v)=I8 N (λv=>s0 (wO v)) v:=Eq.trans (b:=FN (λv=>Bd (Bc Ez0 Tz0 6 N f41 [.bool] [false] [] 1 (CS s0 BN)) N (QFR v)) (λv=>s0 (wO v)) v) (by kernel_rfl) (by rw [funext (BR QFR (QYt N s0) N)];rfl)
def QO (BZ:ZE->Option Bool) (x:Y4):Option Bool:=
 bif decide ((x.length:Int) > 40) then some true else BZ (x,(0:Int))
def Xw (x:Y4):Option Bool:=QO (BP (I8 big) big) x
def Gz0:Cb:=⟨[VN],[.bool],[false],λx=>Xw x⟩
theorem Lz0:Bb prog 41 Gz0:=DV Ez0 Tz0 (λN x=>QO (BP (I8 N) N) x) (eO BS) func41 λN x=>Eq.trans (b:=QO (λv=>Bd (Bc Ez0 Tz0 6 N f41 [.bool] [false] [] 0 BN) N (wO v)) x) (by kernel_rfl) (by rw [funext (BR wO (QYs N) N)] <;> rfl)
def Tz1:LT:=lT [(4,[1,3]),(10,[1,4,5]),(17,[1,4,5,6,7])]
noncomputable def Ez1:=eN tab [(41,Gz0)]
noncomputable def QFT (v:Y55):St:=⟨[(1,.loc 0 []),sV 4 Z2 v.1,sV 5 Z2 v.2.1,(6,.loc 1 []),sV 7 Z2 v.2.2.1],[(0,.var Z1 (.val ⟨Z1,v.2.2.2.1⟩)),(1,.var Z0 (.val ⟨Z0,v.2.2.2.2⟩))],[],4096⟩
noncomputable def wP (v:Y87):St:=⟨[(1,.loc 0 []),sV 4 Z2 v.1,sV 5 Z2 v.2.1],[(0,.var Z1 (.val ⟨Z1,v.2.2⟩))],[],4096⟩
noncomputable def mJ (v:aI):St:=⟨[(1,.loc 0 []),sV 3 Z2 v.1],[(0,.var Z1 (.val ⟨Z1,v.2⟩))],[],4096⟩
def Uk (BM:aI->Option Bool) (BQ:Y87->Option Bool) (Bp:Y55->Option Bool) (v:Y55):Option Bool:=
 bif decide (v.2.2.1 < (v.2.2.2.2.2.2.2.1.length:Int)) then (BX v.2.2.2.2.2.2.2.1 v.2.2.1).bind λx6=>bif decide ((x6.1.length:Int) > 100) then some true else let x7:Int:=IntKind.i64.wrap (v.2.2.1+1);Bp (v.1,v.2.1,x7,v.2.2.2.1,v.2.2.2.2) else let x8:Int:=IntKind.i64.wrap (v.2.1+1);BQ (v.1,x8,v.2.2.2.1)
def JF (N:Nat) (BM:aI->Option Bool) (BQ:Y87->Option Bool) (Bp:Y55->Option Bool) (v:Y55):Option Bool:=Uk BM BQ Bp v
theorem QYx (N:Nat) (s0:St->Option Bool) (s1) (s2) (v):(Bc Ez1 Tz1 6 N f15 [.bool] [false] [] 2 (CS s1 BN)) s2 (QFT v)=JF N (λv=>s0 (mJ v)) (λv=>s1 (wP v)) (λv=>s2 (QFT v)) v:=by kernel_rfl
def P5 (QB:Y55->Option Bool) (BM:aI->Option Bool) (BQ:Y87->Option Bool) (v:Y87):Option Bool:=
 bif decide (v.2.1 < (v.2.2.2.2.1.length:Int)) then (BX v.2.2.2.2.1 v.2.1).bind λx4=>let x5:Int:=IntKind.i64.wrap (v.1+(x4.2.2.2.2.1.length:Int));bif decide ((x4.1.length:Int) > 100) then some true else bif decide ((x4.2.2.2.1.length:Int) > 20) then some true else bif decide ((x4.2.2.2.2.1.length:Int) > 210) then some true else bif decide ((x4.2.2.2.2.2.1.length:Int) > 210) then some true else bif decide ((x4.2.2.2.2.2.2.1.length:Int) > 210) then some true else bif decide (x5 > 1000) then some true else QB (x5,v.2.1,(0:Int),v.2.2,x4) else some false
def JE (N:Nat) (BM:aI->Option Bool) (BQ:Y87->Option Bool) (v:Y87):Option Bool:=P5 (BP (JF N BM BQ) N) BM BQ v
theorem QYw (N:Nat) (s0:St->Option Bool) (s1) (v):(Bc Ez1 Tz1 6 N f15 [.bool] [false] [] 1 BN) s1 (wP v)=JE N (λv=>s0 (mJ v)) (λv=>s1 (wP v)) v:=Eq.trans (b:=P5 (λv=>Bd (Bc Ez1 Tz1 6 N f15 [.bool] [false] [] 2 (CS s1 BN)) N (QFT v)) (λv=>s0 (mJ v)) (λv=>s1 (wP v)) v) (by kernel_rfl) (by rw [funext (BR QFT (QYx N s0 s1) N)];rfl)
def Pz (Ca:Y87->Option Bool) (BM:aI->Option Bool) (v:aI):Option Bool:=
 bif decide (v.1 < (v.2.2.1.length:Int)) then (BX v.2.2.1 v.1).bind λx2=>bif decide ((x2.length:Int) > 100) then some true else let x3:Int:=IntKind.i64.wrap (v.1+1);BM (x3,v.2) else Ca ((0:Int),(0:Int),v.2)
def GZ (N:Nat) (BM:aI->Option Bool) (v:aI):Option Bool:=Pz (BP (JE N BM) N) BM v
theorem QYv (N:Nat) (s0) (v):(Bc Ez1 Tz1 6 N f15 [.bool] [false] [] 0 BN) s0 (mJ v)=GZ N (λv=>s0 (mJ v)) v:=Eq.trans (b:=Pz (λv=>Bd (Bc Ez1 Tz1 6 N f15 [.bool] [false] [] 1 BN) N (wP v)) (λv=>s0 (mJ v)) v) (by kernel_rfl) (by rw [funext (BR wP (QYw N s0) N)];rfl)
def QZ (BZ:aI->Option Bool) (x:Y1):Option Bool:=
 (Xw x.1).bind λx1=>bif x1 then some true else bif decide ((x.2.1.length:Int) > 40) then some true else bif decide ((x.2.2.1.length:Int) > 40) then some true else BZ ((0:Int),x)
def X0 (x:Y1):Option Bool:=QZ (BP (GZ big) big) x
def Gz1:Cb:=⟨[Z1],[.bool],[false],λx=>X0 x⟩
theorem Lz1:Bb prog 15 Gz1:=DV Ez1 Tz1 (λN x=>QZ (BP (GZ N) N) x) (eO (BO Lz0 BS)) func15 λN x=>Eq.trans (b:=QZ (λv=>Bd (Bc Ez1 Tz1 6 N f15 [.bool] [false] [] 0 BN) N (mJ v)) x) (by kernel_rfl) (by rw [funext (BR mJ (QYv N) N)] <;> rfl)
def Tz2:LT:=lT [(3,[0,3,4])]
noncomputable def Ez2:=eN tab []
noncomputable def QFU (v:Y4×Int×Y4):St:=⟨[sV 0 VN v.1,(3,.row 0),sV 4 Z2 v.2.1],[(0,.row Z4 v.2.2)],[],4096⟩
def Nt (BM:Y4×Int×Y4->Option Y4) (v:Y4×Int×Y4):Option Y4:=
 bif decide (v.2.1 < (v.1.length:Int)) then (BX v.1 v.2.1).bind λx1=>let x2:Y6:=([]:Y6);((BX v.1 v.2.1).bind λx3=>bif Nat.ble 1 2&&Nat.ble (List.length x2+x3.2.2.2.1.length) lim then let x4:Y6:=List.append x2 x3.2.2.2.1;let x5:Y4:=([(x1.1,(x1.2.1,(x1.2.2.1,(x4,x1.2.2.2.2))))]:Y4);bif Nat.ble 1 4&&Nat.ble (List.length v.2.2+x5.length) lim then let x6:Int:=IntKind.i64.wrap (v.2.1+1);BM (v.1,x6,(List.append v.2.2 x5)) else none else none) else some v.2.2
def Nn (N:Nat) (BM:Y4×Int×Y4->Option Y4) (v:Y4×Int×Y4):Option Y4:=Nt BM v
theorem QYy (N:Nat) (s0) (v):(Bc Ez2 Tz2 6 N f27 [VN] [true] [] 0 BN) s0 (QFU v)=Nn N (λv=>s0 (QFU v)) v:=by kernel_rfl
def SC (BZ:Y4×Int×Y4->Option Y4) (x:Y4):Option Y4:=
 BZ (x,(0:Int),([]:List jZ))
def Vd (x:Y4):Option Y4:=SC (BP (Nn big) big) x
def Gz2:Cb:=⟨[VN],[VN],[true],λx=>Vd x⟩
theorem Lz2:Bb prog 27 Gz2:=DV Ez2 Tz2 (λN x=>SC (BP (Nn N) N) x) (eO BS) func27 λN x=>Eq.trans (b:=SC (λv=>Bd (Bc Ez2 Tz2 6 N f27 [VN] [true] [] 0 BN) N (QFU v)) x) (by kernel_rfl) (by rw [funext (BR QFU (QYy N) N)] <;> rfl)
def QXz:LT:=lT []
noncomputable def QVF:=eN tab []
def Wd (x:Int):Option Bool:=
 bif decide (x>=97) then bif decide (x<=122) then some true else bif decide (x>=65) then some (decide (x<=90)) else some false else bif decide (x>=65) then some (decide (x<=90)) else some false
def Nb (x:Int):Option Bool:=Wd x
def QPa:Cb:=⟨[LU],[.bool],[false],λx=>Nb x⟩
theorem QWo:Bb prog 188 QPa:=DV QVF QXz (λ_=>Nb) (eO BS) func188
def QJu:LT:=lT [(4,[0,3])]
noncomputable def QIO:=eN tab [(188,QPa)]
noncomputable def oK (v:Y2×Int):St:=⟨[sV 0 .str v.1,sV 3 Z2 v.2],[],[],4096⟩
def ME (BM:Y2×Int->Option Bool) (v:Y2×Int):Option Bool:=
 bif decide (v.2 < (v.1.length:Int)) then (BX v.1 v.2).bind λx3=>((Nb x3).bind λx4=>bif !x4 then (BX v.1 v.2).bind λx5=>bif decide (x5 < 48) then some false else (BX v.1 v.2).bind λx6=>bif decide (x6 > 57) then some false else let x7:Int:=IntKind.i64.wrap (v.2+1);BM (v.1,x7) else let x8:Int:=IntKind.i64.wrap (v.2+1);BM (v.1,x8)) else some true
def Li (N:Nat) (BM:Y2×Int->Option Bool) (v:Y2×Int):Option Bool:=ME BM v
theorem QNG (N:Nat) (s0) (v):(Bc QIO QJu 6 N f164 [.bool] [false] [] 0 BN) s0 (oK v)=Li N (λv=>s0 (oK v)) v:=by kernel_rfl
def QS (BZ:Y2×Int->Option Bool) (x:Y2):Option Bool:=
 bif decide ((x.length:Int) < 1) then some false else bif decide ((x.length:Int) > 16) then some false else (BX x (0:Int)).bind λx1=>(Nb x1).bind λx2=>bif !x2 then some false else BZ (x,(0:Int))
def TY (x:Y2):Option Bool:=QS (BP (Li big) big) x
def QIz:Cb:=⟨[.str],[.bool],[false],λx=>TY x⟩
theorem QQK:Bb prog 164 QIz:=DV QIO QJu (λN x=>QS (BP (Li N) N) x) (eO (BO QWo BS)) func164 λN x=>Eq.trans (b:=QS (λv=>Bd (Bc QIO QJu 6 N f164 [.bool] [false] [] 0 BN) N (oK v)) x) (by kernel_rfl) (by rw [funext (BR oK (QNG N) N)] <;> rfl)
def QB5:LT:=lT [(4,[0,5]),(9,[0,5,6])]
noncomputable def QAn:=eN tab [(164,QIz)]
noncomputable def oL (v:Y6×Int×Int):St:=⟨[sV 0 Z8 v.1,sV 5 Z2 v.2.1,sV 6 Z2 v.2.2],[],[],4096⟩
noncomputable def aS (v:Y6×Int):St:=⟨[sV 0 Z8 v.1,sV 5 Z2 v.2],[],[],4096⟩
def Fp (BM:Y6×Int->Option Bool) (BQ:Y6×Int×Int->Option Bool) (v:Y6×Int×Int):Option Bool:=
 bif decide (v.2.2 < v.2.1) then (BX v.1 v.2.2).bind λx3=>((BX v.1 v.2.1).bind λx4=>bif R3 .str x3.1 x4.1 then some false else let x5:Int:=IntKind.i64.wrap (v.2.2+1);BQ (v.1,v.2.1,x5)) else let x6:Int:=IntKind.i64.wrap (v.2.1+1);BM (v.1,x6)
def D8 (N:Nat) (BM:Y6×Int->Option Bool) (BQ:Y6×Int×Int->Option Bool) (v:Y6×Int×Int):Option Bool:=Fp BM BQ v
theorem QNI (N:Nat) (s0) (s1) (v):(Bc QAn QB5 6 N f165 [.bool] [false] [] 1 (CS s0 BN)) s1 (oL v)=D8 N (λv=>s0 (aS v)) (λv=>s1 (oL v)) v:=by kernel_rfl
def Dc (Ca:Y6×Int×Int->Option Bool) (BM:Y6×Int->Option Bool) (v:Y6×Int):Option Bool:=
 bif decide (v.2 < (v.1.length:Int)) then (BX v.1 v.2).bind λx1=>(TY x1.1).bind λx2=>bif !x2 then some false else Ca (v.1,v.2,(0:Int)) else some true
def Db (N:Nat) (BM:Y6×Int->Option Bool) (v:Y6×Int):Option Bool:=Dc (BP (D8 N BM) N) BM v
theorem QNH (N:Nat) (s0) (v):(Bc QAn QB5 6 N f165 [.bool] [false] [] 0 BN) s0 (aS v)=Db N (λv=>s0 (aS v)) v:=Eq.trans (b:=Dc (λv=>Bd (Bc QAn QB5 6 N f165 [.bool] [false] [] 1 (CS s0 BN)) N (oL v)) (λv=>s0 (aS v)) v) (by kernel_rfl) (by rw [funext (BR oL (QNI N s0) N)];rfl)
def Ic (BZ:Y6×Int->Option Bool) (x:Y6×Int):Option Bool:=
 bif decide ((x.1.length:Int) > x.2) then some false else BZ (x.1,(0:Int))
def Na (x:Y6×Int):Option Bool:=Ic (BP (Db big) big) x
def QJ0:Cb:=⟨[Z8,Z2],[.bool],[false],λx=>Na x⟩
theorem QQL:Bb prog 165 QJ0:=DV QAn QB5 (λN x=>Ic (BP (Db N) N) x) (eO (BO QQK BS)) func165 λN x=>Eq.trans (b:=Ic (λv=>Bd (Bc QAn QB5 6 N f165 [.bool] [false] [] 0 BN) N (aS v)) x) (by kernel_rfl) (by rw [funext (BR aS (QNH N) N)] <;> rfl)
def QJv:LT:=lT [(14,[1,5,6])]
noncomputable def QIP:=eN tab [(165,QJ0)]
noncomputable def oM (v:Int×Int×jZ):St:=⟨[sV 1 Z2 v.1,(5,.loc 0 []),sV 6 Z2 v.2.1],[(0,.var Z4 (.val ⟨Z4,v.2.2⟩))],[],4096⟩
def Nu (BM:Int×Int×jZ->Option Bool) (v:Int×Int×jZ):Option Bool:=
 bif decide (v.2.1 < (v.2.2.2.2.2.1.length:Int)) then (BX v.2.2.2.2.2.1 v.2.1).bind λx2=>bif decide (x2.2.1 < 0) then some false else (BX v.2.2.2.2.2.1 v.2.1).bind λx3=>bif decide (x3.2.1>=v.1) then some false else let x4:Int:=IntKind.i64.wrap (v.2.1+1);BM (v.1,x4,v.2.2) else bif v.2.2.2.1==0 then bif v.2.2.2.2.1==0 then bif decide ((v.2.2.2.2.2.1.length:Int) > 0) then (Na (v.2.2.2.2.2.1,(8:Int))).bind λx5=>some x5 else some false else some false else some false
def IJ (N:Nat) (BM:Int×Int×jZ->Option Bool) (v:Int×Int×jZ):Option Bool:=Nu BM v
theorem QNJ (N:Nat) (s0) (v):(Bc QIP QJv 6 N f161 [.bool] [false] [] 0 BN) s0 (oM v)=IJ N (λv=>s0 (oM v)) v:=by kernel_rfl
def SE (BZ:Int×Int×jZ->Option Bool) (x:ZE):Option Bool:=
 (BX x.1 x.2).bind λx1=>bif x1.1==1 then bif x1.1==1 then bif x1.2.1==0 then bif x1.2.2.1==0 then some ((x1.2.2.2.1.length:Int)==0) else some false else some false else bif x1.1==4 then bif x1.1==4 then bif decide (x1.2.1>=0) then bif decide (x1.2.1 < (x.1.length:Int)) then bif x1.2.2.1==0 then some ((x1.2.2.2.1.length:Int)==0) else some false else some false else some false else bif x1.1==6 then bif decide (x1.2.1>=0) then bif decide (x1.2.1 < x.2) then bif decide (x1.2.2.1>=1) then bif decide (x1.2.2.1<=16) then some ((x1.2.2.2.1.length:Int)==0) else some false else some false else some false else some false else bif x1.1==5 then BZ (x.2,(0:Int),x1) else some false else bif x1.1==7 then bif decide (x1.2.1>=0) then bif decide (x1.2.1 < (x.1.length:Int)) then bif x1.2.2.1==0 then some ((x1.2.2.2.1.length:Int)==0) else some false else some false else some false else bif x1.1==6 then bif decide (x1.2.1>=0) then bif decide (x1.2.1 < x.2) then bif decide (x1.2.2.1>=1) then bif decide (x1.2.2.1<=16) then some ((x1.2.2.2.1.length:Int)==0) else some false else some false else some false else some false else bif x1.1==5 then BZ (x.2,(0:Int),x1) else some false else bif x1.1==2 then bif x1.1==2 then bif x1.2.1==0 then bif x1.2.2.1==0 then some ((x1.2.2.2.1.length:Int)==0) else some false else some false else bif x1.1==4 then bif x1.1==4 then bif decide (x1.2.1>=0) then bif decide (x1.2.1 < (x.1.length:Int)) then bif x1.2.2.1==0 then some ((x1.2.2.2.1.length:Int)==0) else some false else some false else some false else bif x1.1==6 then bif decide (x1.2.1>=0) then bif decide (x1.2.1 < x.2) then bif decide (x1.2.2.1>=1) then bif decide (x1.2.2.1<=16) then some ((x1.2.2.2.1.length:Int)==0) else some false else some false else some false else some false else bif x1.1==5 then BZ (x.2,(0:Int),x1) else some false else bif x1.1==7 then bif decide (x1.2.1>=0) then bif decide (x1.2.1 < (x.1.length:Int)) then bif x1.2.2.1==0 then some ((x1.2.2.2.1.length:Int)==0) else some false else some false else some false else bif x1.1==6 then bif decide (x1.2.1>=0) then bif decide (x1.2.1 < x.2) then bif decide (x1.2.2.1>=1) then bif decide (x1.2.2.1<=16) then some ((x1.2.2.2.1.length:Int)==0) else some false else some false else some false else some false else bif x1.1==5 then BZ (x.2,(0:Int),x1) else some false else bif x1.1==3 then bif x1.2.1==0 then bif x1.2.2.1==0 then some ((x1.2.2.2.1.length:Int)==0) else some false else some false else bif x1.1==4 then bif x1.1==4 then bif decide (x1.2.1>=0) then bif decide (x1.2.1 < (x.1.length:Int)) then bif x1.2.2.1==0 then some ((x1.2.2.2.1.length:Int)==0) else some false else some false else some false else bif x1.1==6 then bif decide (x1.2.1>=0) then bif decide (x1.2.1 < x.2) then bif decide (x1.2.2.1>=1) then bif decide (x1.2.2.1<=16) then some ((x1.2.2.2.1.length:Int)==0) else some false else some false else some false else some false else bif x1.1==5 then BZ (x.2,(0:Int),x1) else some false else bif x1.1==7 then bif decide (x1.2.1>=0) then bif decide (x1.2.1 < (x.1.length:Int)) then bif x1.2.2.1==0 then some ((x1.2.2.2.1.length:Int)==0) else some false else some false else some false else bif x1.1==6 then bif decide (x1.2.1>=0) then bif decide (x1.2.1 < x.2) then bif decide (x1.2.2.1>=1) then bif decide (x1.2.2.1<=16) then some ((x1.2.2.2.1.length:Int)==0) else some false else some false else some false else some false else bif x1.1==5 then BZ (x.2,(0:Int),x1) else some false
def ZP (x:ZE):Option Bool:=SE (BP (IJ big) big) x
def QPb:Cb:=⟨[VN,Z2],[.bool],[false],λx=>ZP x⟩
theorem QWp:Bb prog 161 QPb:=DV QIP QJv (λN x=>SE (BP (IJ N) N) x) (eO (BO QQL BS)) func161 λN x=>Eq.trans (b:=SE (λv=>Bd (Bc QIP QJv 6 N f161 [.bool] [false] [] 0 BN) N (oM v)) x) (by kernel_rfl) (by rw [funext (BR oM (QNJ N) N)] <;> rfl)
def QJw:LT:=lT [(5,[1,3,4])]
noncomputable def QIQ:=eN tab []
noncomputable def oN (v:Int×jZ×Y2):St:=⟨[(1,.loc 0 []),(3,.row 1),sV 4 Z2 v.1],[(0,.var Z4 (.val ⟨Z4,v.2.1⟩)),(1,.row Z2 v.2.2)],[],4096⟩
def MF (BM:Int×jZ×Y2->Option Y2) (v:Int×jZ×Y2):Option Y2:=
 bif decide (v.1 < (v.2.1.2.2.2.1.length:Int)) then (BX v.2.1.2.2.2.1 v.1).bind λx2=>bif Nat.ble 1 1&&Nat.ble (List.length v.2.2+List.length ([x2.2.1]:Y2)) lim then let x3:Y2:=List.append v.2.2 ([x2.2.1]:Y2);let x4:Int:=IntKind.i64.wrap (v.1+1);BM (x4,v.2.1,x3) else none else some v.2.2
def I9 (N:Nat) (BM:Int×jZ×Y2->Option Y2) (v:Int×jZ×Y2):Option Y2:=MF BM v
theorem QNK (N:Nat) (s0) (v):(Bc QIQ QJw 6 N f187 [Z5] [true] [] 0 BN) s0 (oN v)=I9 N (λv=>s0 (oN v)) v:=by kernel_rfl
def QT (BZ:Int×jZ×Y2->Option Y2) (x:jZ):Option Y2:=
 bif x.1==6 then bif Nat.ble 1 1&&Nat.ble (List.length ([]:List Int)+List.length ([x.2.1]:Y2)) lim then let x1:Y2:=List.append ([]:List Int) ([x.2.1]:Y2);BZ ((0:Int),x,x1) else none else BZ ((0:Int),x,([]:List Int))
def Ta (x:jZ):Option Y2:=QT (BP (I9 big) big) x
def QPc:Cb:=⟨[Z4],[Z5],[true],λx=>Ta x⟩
theorem QWq:Bb prog 187 QPc:=DV QIQ QJw (λN x=>QT (BP (I9 N) N) x) (eO BS) func187 λN x=>Eq.trans (b:=QT (λv=>Bd (Bc QIQ QJw 6 N f187 [Z5] [true] [] 0 BN) N (oN v)) x) (by kernel_rfl) (by rw [funext (BR oN (QNK N) N)] <;> rfl)
def vW:LT:=lT [(6,[0,1,5,6,7]),(10,[0,1,5,6,7,8,9,10])]
noncomputable def vR (me:ZE->Option Y2):CO:={ tab:=tab,fs:=[(187,QPc),(162,⟨[VN,Z2],[Z5],[true],λx=>me x⟩)],inl:=[] }
noncomputable def oO (v:Y35):St:=⟨[sV 0 VN v.1,sV 1 Z2 v.2.1,(5,.row 0),(6,.row 1),sV 7 Z2 v.2.2.1,sV 8 Z2 v.2.2.2.1,(9,.row 2),sV 10 Z2 v.2.2.2.2.1],[(0,.row Z2 v.2.2.2.2.2.1),(1,.row Z2 v.2.2.2.2.2.2.1),(2,.row Z2 v.2.2.2.2.2.2.2)],[],4096⟩
noncomputable def aT (v:Y71):St:=⟨[sV 0 VN v.1,sV 1 Z2 v.2.1,(5,.row 0),(6,.row 1),sV 7 Z2 v.2.2.1],[(0,.row Z2 v.2.2.2.1),(1,.row Z2 v.2.2.2.2)],[],4096⟩
def KH (me:ZE->Option Y2) (BM:Y71->Option Y2) (BQ:Y35->Option Y2) (v:Y35):Option Y2:=
 bif decide (v.2.2.2.2.1 < (v.2.2.2.2.2.2.2.length:Int)) then (BX v.1 v.2.2.1).bind λx5=>bif x5.1==6 then (BX v.1 v.2.2.1).bind λx6=>bif decide (0<=v.2.2.2.2.1)&&decide (v.2.2.2.2.1 < (v.2.2.2.2.2.2.2.length:Int)) then (nth v.2.2.2.2.2.2.2 (Int.toNat v.2.2.2.2.1)).bind λx7=>bif decide (0<=x7)&&decide (x7 < (v.2.2.2.2.2.2.1.length:Int)) then (nth v.2.2.2.2.2.2.1 (Int.toNat x7)).bind λx8=>let x9:Int:=IntKind.i64.wrap (x6.2.2.1 * x8);let FJ:Int:=IntKind.i64.wrap (v.2.2.2.1+x9);let FQ:Int:=if (5001:Int) < FJ then (5001:Int) else FJ;let Kw:Int:=IntKind.i64.wrap (v.2.2.2.2.1+1);BQ (v.1,v.2.1,v.2.2.1,FQ,Kw,v.2.2.2.2.2.1,v.2.2.2.2.2.2.1,v.2.2.2.2.2.2.2) else none else none else bif decide (0<=v.2.2.2.2.1)&&decide (v.2.2.2.2.1 < (v.2.2.2.2.2.2.2.length:Int)) then (nth v.2.2.2.2.2.2.2 (Int.toNat v.2.2.2.2.1)).bind λNC=>bif decide (0<=NC)&&decide (NC < (v.2.2.2.2.2.2.1.length:Int)) then (nth v.2.2.2.2.2.2.1 (Int.toNat NC)).bind λIh=>let H7:Int:=IntKind.i64.wrap ((1:Int) * Ih);let Qn:Int:=IntKind.i64.wrap (v.2.2.2.1+H7);let Sg:Int:=if (5001:Int) < Qn then (5001:Int) else Qn;let VR:Int:=IntKind.i64.wrap (v.2.2.2.2.1+1);BQ (v.1,v.2.1,v.2.2.1,Sg,VR,v.2.2.2.2.2.1,v.2.2.2.2.2.2.1,v.2.2.2.2.2.2.2) else none else none else bif decide (v.2.1 > 0) then (BX v.1 v.2.2.1).bind λVL=>bif VL.1==4 then (BX v.1 v.2.2.1).bind λVT=>bif decide (0<=VT.2.1)&&decide (VT.2.1 < (v.2.2.2.2.2.1.length:Int)) then (nth v.2.2.2.2.2.1 (Int.toNat VT.2.1)).bind λx21=>let Xd:Int:=IntKind.i64.wrap (v.2.2.2.1+x21);let x23:Int:=if (5001:Int) < Xd then (5001:Int) else Xd;bif decide (v.2.1 > 0) then (BX v.1 v.2.2.1).bind λx24=>bif x24.1==7 then (BX v.1 v.2.2.1).bind λx25=>bif decide (0<=x25.2.1)&&decide (x25.2.1 < (v.2.2.2.2.2.1.length:Int)) then (nth v.2.2.2.2.2.1 (Int.toNat x25.2.1)).bind λjT=>let x27:Int:=IntKind.i64.wrap ((16:Int) * jT);let x28:Int:=IntKind.i64.wrap (x23+x27);let x29:Int:=if (5001:Int) < x28 then (5001:Int) else x28;bif Nat.ble 1 1&&Nat.ble (List.length v.2.2.2.2.2.2.1+List.length ([x29]:Y2)) lim then let x30:Y2:=List.append v.2.2.2.2.2.2.1 ([x29]:Y2);let x31:Int:=IntKind.i64.wrap (v.2.2.1+1);BM (v.1,v.2.1,x31,v.2.2.2.2.2.1,x30) else none else none else bif Nat.ble 1 1&&Nat.ble (List.length v.2.2.2.2.2.2.1+List.length ([x23]:Y2)) lim then let x32:Y2:=List.append v.2.2.2.2.2.2.1 ([x23]:Y2);let x33:Int:=IntKind.i64.wrap (v.2.2.1+1);BM (v.1,v.2.1,x33,v.2.2.2.2.2.1,x32) else none else bif Nat.ble 1 1&&Nat.ble (List.length v.2.2.2.2.2.2.1+List.length ([x23]:Y2)) lim then let x34:Y2:=List.append v.2.2.2.2.2.2.1 ([x23]:Y2);let x35:Int:=IntKind.i64.wrap (v.2.2.1+1);BM (v.1,v.2.1,x35,v.2.2.2.2.2.1,x34) else none else none else bif decide (v.2.1 > 0) then (BX v.1 v.2.2.1).bind λx36=>bif x36.1==7 then (BX v.1 v.2.2.1).bind λx37=>bif decide (0<=x37.2.1)&&decide (x37.2.1 < (v.2.2.2.2.2.1.length:Int)) then (nth v.2.2.2.2.2.1 (Int.toNat x37.2.1)).bind λx38=>let x39:Int:=IntKind.i64.wrap ((16:Int) * x38);let x40:Int:=IntKind.i64.wrap (v.2.2.2.1+x39);let x41:Int:=if (5001:Int) < x40 then (5001:Int) else x40;bif Nat.ble 1 1&&Nat.ble (List.length v.2.2.2.2.2.2.1+List.length ([x41]:Y2)) lim then let x42:Y2:=List.append v.2.2.2.2.2.2.1 ([x41]:Y2);let x43:Int:=IntKind.i64.wrap (v.2.2.1+1);BM (v.1,v.2.1,x43,v.2.2.2.2.2.1,x42) else none else none else let x44:Y2:=([v.2.2.2.1]:Y2);bif Nat.ble 1 1&&Nat.ble (List.length v.2.2.2.2.2.2.1+x44.length) lim then let x45:Y2:=List.append v.2.2.2.2.2.2.1 x44;let x46:Int:=IntKind.i64.wrap (v.2.2.1+1);BM (v.1,v.2.1,x46,v.2.2.2.2.2.1,x45) else none else let x47:Y2:=([v.2.2.2.1]:Y2);bif Nat.ble 1 1&&Nat.ble (List.length v.2.2.2.2.2.2.1+x47.length) lim then let x48:Y2:=List.append v.2.2.2.2.2.2.1 x47;let x49:Int:=IntKind.i64.wrap (v.2.2.1+1);BM (v.1,v.2.1,x49,v.2.2.2.2.2.1,x48) else none else bif decide (v.2.1 > 0) then (BX v.1 v.2.2.1).bind λx50=>bif x50.1==7 then (BX v.1 v.2.2.1).bind λx51=>bif decide (0<=x51.2.1)&&decide (x51.2.1 < (v.2.2.2.2.2.1.length:Int)) then (nth v.2.2.2.2.2.1 (Int.toNat x51.2.1)).bind λx52=>let x53:Int:=IntKind.i64.wrap ((16:Int) * x52);let x54:Int:=IntKind.i64.wrap (v.2.2.2.1+x53);let x55:Int:=if (5001:Int) < x54 then (5001:Int) else x54;bif Nat.ble 1 1&&Nat.ble (List.length v.2.2.2.2.2.2.1+List.length ([x55]:Y2)) lim then let x56:Y2:=List.append v.2.2.2.2.2.2.1 ([x55]:Y2);let x57:Int:=IntKind.i64.wrap (v.2.2.1+1);BM (v.1,v.2.1,x57,v.2.2.2.2.2.1,x56) else none else none else let x58:Y2:=([v.2.2.2.1]:Y2);bif Nat.ble 1 1&&Nat.ble (List.length v.2.2.2.2.2.2.1+x58.length) lim then let x59:Y2:=List.append v.2.2.2.2.2.2.1 x58;let x60:Int:=IntKind.i64.wrap (v.2.2.1+1);BM (v.1,v.2.1,x60,v.2.2.2.2.2.1,x59) else none else let x61:Y2:=([v.2.2.2.1]:Y2);bif Nat.ble 1 1&&Nat.ble (List.length v.2.2.2.2.2.2.1+x61.length) lim then let x62:Y2:=List.append v.2.2.2.2.2.2.1 x61;let x63:Int:=IntKind.i64.wrap (v.2.2.1+1);BM (v.1,v.2.1,x63,v.2.2.2.2.2.1,x62) else none
def Sz (me:ZE->Option Y2) (N:Nat) (BM:Y71->Option Y2) (BQ:Y35->Option Y2) (v:Y35):Option Y2:=KH me BM BQ v
theorem QNM (me:ZE->Option Y2) (N:Nat) (s0) (s1) (v):(Bc (vR me) vW 6 N f162 [Z5] [true] [] 1 (CS s0 BN)) s1 (oO v)=Sz me N (λv=>s0 (aT v)) (λv=>s1 (oO v)) v:=by kernel_rfl
def G6 (me:ZE->Option Y2) (Ca:Y35->Option Y2) (BM:Y71->Option Y2) (v:Y71):Option Y2:=
 bif decide (v.2.2.1 < (v.1.length:Int)) then (BX v.1 v.2.2.1).bind λx3=>(Ta x3).bind λx4=>Ca (v.1,v.2.1,v.2.2.1,(1:Int),(0:Int),v.2.2.2.1,v.2.2.2.2,x4) else some v.2.2.2.2
def KE (me:ZE->Option Y2) (N:Nat) (BM:Y71->Option Y2) (v:Y71):Option Y2:=G6 me (BP (Sz me N BM) N) BM v
theorem QNL (me:ZE->Option Y2) (N:Nat) (s0) (v):(Bc (vR me) vW 6 N f162 [Z5] [true] [] 0 BN) s0 (aT v)=KE me N (λv=>s0 (aT v)) v:=Eq.trans (b:=G6 me (λv=>Bd (Bc (vR me) vW 6 N f162 [Z5] [true] [] 1 (CS s0 BN)) N (oO v)) (λv=>s0 (aT v)) v) (by kernel_rfl) (by rw [funext (BR oO (QNM me N s0) N)];rfl)
def Nz (me:ZE->Option Y2) (BZ:Y71->Option Y2) (x:ZE):Option Y2:=
 bif decide (x.2 > 0) then let x1:Int:=IntKind.i64.wrap (x.2 - 1);(me (x.1,x1)).bind λx2=>BZ (x.1,x.2,(0:Int),x2,([]:List Int)) else BZ (x.1,x.2,(0:Int),([]:List Int),([]:List Int))
def dL (me:ZE->Option Y2) (N:Nat) (x:ZE):Option Y2:=Nz me (BP (KE me N) N) x
theorem QZf (me:ZE->Option Y2) (N:Nat) (x:ZE):rise (vR me) vW 6 N f162 [VN,Z2] [Z5] [true] x=dL me N x:=Eq.trans (b:=Nz me (λv=>Bd (Bc (vR me) vW 6 N f162 [Z5] [true] [] 0 BN) N (aT v)) x) (by kernel_rfl) (by rw [funext (BR aT (QNL me N) N)];rfl)
def FI:Nat->Y4×Int->Option Y2
 | 0,_=>none
 | k+1,x=>dL (FI k) big x
def WH (x:ZE):Option Y2:=FI big x
def QPd:Cb:=⟨[VN,Z2],[Z5],[true],λx=>WH x⟩
theorem QQj:∀ k,Bb prog 162 ⟨[VN,Z2],[Z5],[true],λx=>FI k x⟩
 | 0=>QEM func162 rfl (by decide) (by kernel_rfl) (by kernel_rfl)
 | k+1=>by
  have ih:=QQj k
  exact QCX (E:=vR (FI k)) (eO (BO QWq (BO ih BS))) func162 rfl (by decide) (by kernel_rfl) (by kernel_rfl) (by kernel_rfl) (by kernel_rfl) (λx r _ h=>⟨vW,6,big,(QZf (FI k) big x).trans h⟩)
theorem QWr:Bb prog 162 QPd:=QQj big
def QB6:LT:=lT [(4,[0,3]),(10,[0,4,5])]
noncomputable def QAo:=eN tab [(161,QPb),(162,QPd)]
noncomputable def oP (v:Y93):St:=⟨[sV 0 VN v.1,(4,.row 0),sV 5 Z2 v.2.1],[(0,.row Z2 v.2.2)],[],4096⟩
noncomputable def aU (v:ZE):St:=⟨[sV 0 VN v.1,sV 3 Z2 v.2],[],[],4096⟩
def MB (BM:ZE->Option Int) (BQ:Y93->Option Int) (v:Y93):Option Int:=
 bif decide (v.2.1 < (v.1.length:Int)) then bif decide (0<=v.2.1)&&decide (v.2.1 < (v.2.2.length:Int)) then (nth v.2.2 (Int.toNat v.2.1)).bind λx4=>bif decide (x4 > 5000) then some (8:Int) else let x5:Int:=IntKind.i64.wrap (v.2.1+1);BQ (v.1,x5,v.2.2) else none else some (0:Int)
def Pg (N:Nat) (BM:ZE->Option Int) (BQ:Y93->Option Int) (v:Y93):Option Int:=MB BM BQ v
theorem QNO (N:Nat) (s0:St->Option Int) (s1) (v):(Bc QAo QB6 6 N f125 [Z2] [false] [] 1 BN) s1 (oP v)=Pg N (λv=>s0 (aU v)) (λv=>s1 (oP v)) v:=by kernel_rfl
def JN (Ca:Y93->Option Int) (BM:ZE->Option Int) (v:ZE):Option Int:=
 bif decide (v.2 < (v.1.length:Int)) then (ZP (v.1,v.2)).bind λx1=>bif !x1 then some (8:Int) else let x2:Int:=IntKind.i64.wrap (v.2+1);BM (v.1,x2) else (WH (v.1,(3:Int))).bind λx3=>Ca (v.1,(0:Int),x3)
def I7 (N:Nat) (BM:ZE->Option Int) (v:ZE):Option Int:=JN (BP (Pg N BM) N) BM v
theorem QNN (N:Nat) (s0) (v):(Bc QAo QB6 6 N f125 [Z2] [false] [] 0 BN) s0 (aU v)=I7 N (λv=>s0 (aU v)) v:=Eq.trans (b:=JN (λv=>Bd (Bc QAo QB6 6 N f125 [Z2] [false] [] 1 BN) N (oP v)) (λv=>s0 (aU v)) v) (by kernel_rfl) (by rw [funext (BR oP (QNO N s0) N)];rfl)
def QN (BZ:ZE->Option Int) (x:Y4):Option Int:=
 bif decide ((x.length:Int) > 32) then some (8:Int) else BZ (x,(0:Int))
def Xv (x:Y4):Option Int:=QN (BP (I7 big) big) x
def QPe:Cb:=⟨[VN],[Z2],[false],λx=>Xv x⟩
theorem QWs:Bb prog 125 QPe:=DV QAo QB6 (λN x=>QN (BP (I7 N) N) x) (eO (BO QWp (BO QWr BS))) func125 λN x=>Eq.trans (b:=QN (λv=>Bd (Bc QAo QB6 6 N f125 [Z2] [false] [] 0 BN) N (aU v)) x) (by kernel_rfl) (by rw [funext (BR aU (QNN N) N)] <;> rfl)
def QY0:LT:=lT []
noncomputable def QVG:=eN tab []
def kV (x:vX):Option Int:=
 let x1:Int:=IntKind.i64.wrap (x.1+x.2);let x2:Int:=IntKind.i64.wrap (x1 - 1);bif x.2==0 then none else let x3:Int:=IntKind.i64.wrap (x2.tdiv x.2);let x4:Int:=IntKind.i64.wrap (x3 * x.2);some x4
def UF (x:vX):Option Int:=kV x
def QJ1:Cb:=⟨[Z2,Z2],[Z2],[false],λx=>UF x⟩
theorem QQM:Bb prog 169 QJ1:=DV QVG QY0 (λ_=>UF) (eO BS) func169
def QJx:LT:=lT [(4,[0,1,2,9,10,11,12])]
noncomputable def QIR:=eN tab [(169,QJ1)]
noncomputable def oQ (v:Y40):St:=⟨[sV 0 Z5 v.1,sV 1 Z5 v.2.1,sV 2 Z8 v.2.2.1,(9,.row 0),sV 10 Z2 v.2.2.2.1,sV 11 Z2 v.2.2.2.2.1,sV 12 Z2 v.2.2.2.2.2.1],[(0,.row Z2 v.2.2.2.2.2.2)],[],4096⟩
def Hy (BM:Y40->Option (Y2×Int×Int)) (v:Y40):Option (Y2×Int×Int):=
 bif decide (v.2.2.2.2.2.1 < (v.2.2.1.length:Int)) then (BX v.2.2.1 v.2.2.2.2.2.1).bind λx1=>(BX v.2.1 x1.2.1).bind λx2=>((UF (v.2.2.2.1,x2)).bind λx3=>bif Nat.ble 1 1&&Nat.ble (List.length v.2.2.2.2.2.2+List.length ([x3]:Y2)) lim then let x4:Y2:=List.append v.2.2.2.2.2.2 ([x3]:Y2);((BX v.1 x1.2.1).bind λx5=>let x6:Int:=IntKind.i64.wrap (x3+x5);let x7:Int:=if x6 < 1000000 then x6 else (1000000:Int);((BX v.2.1 x1.2.1).bind λx8=>let x9:Int:=if x8 > v.2.2.2.2.1 then x8 else v.2.2.2.2.1;let FJ:Int:=IntKind.i64.wrap (v.2.2.2.2.2.1+1);BM (v.1,v.2.1,v.2.2.1,x7,x9,FJ,x4))) else none) else (UF (v.2.2.2.1,v.2.2.2.2.1)).bind λFQ=>let Kw:Int:=if FQ < 1000000 then FQ else (1000000:Int);some (v.2.2.2.2.2.2,Kw,v.2.2.2.2.1)
def Hg (N:Nat) (BM:Y40->Option (Y2×Int×Int)) (v:Y40):Option (Y2×Int×Int):=Hy BM v
theorem QNP (N:Nat) (s0) (v):(Bc QIR QJx 6 N f163 [Z5,Z2,Z2] [true,false,false] [] 0 BN) s0 (oQ v)=Hg N (λv=>s0 (oQ v)) v:=by kernel_rfl
def KV (BZ:Y40->Option (Y2×Int×Int)) (x:Y2×Y2×Y6):Option (Y2×Int×Int):=
 BZ (x.1,x.2.1,x.2.2,(0:Int),(1:Int),(0:Int),([]:List Int))
def Sv (x:Y2×Y2×Y6):Option (Y2×Int×Int):=KV (BP (Hg big) big) x
def QPf:Cb:=⟨[Z5,Z5,Z8],[Z5,Z2,Z2],[true,false,false],λx=>Sv x⟩
theorem QWt:Bb prog 163 QPf:=DV QIR QJx (λN x=>KV (BP (Hg N) N) x) (eO (BO QQM BS)) func163 λN x=>Eq.trans (b:=KV (λv=>Bd (Bc QIR QJx 6 N f163 [Z5,Z2,Z2] [true,false,false] [] 0 BN) N (oQ v)) x) (by kernel_rfl) (by rw [funext (BR oQ (QNP N) N)] <;> rfl)
def QJy:LT:=lT [(3,[0,4,5,6])]
noncomputable def QIS:=eN tab [(163,QPf)]
noncomputable def oU (v:Y4×Int×Y2×Y2):St:=⟨[sV 0 VN v.1,(4,.row 0),(5,.row 1),sV 6 Z2 v.2.1],[(0,.row Z2 v.2.2.1),(1,.row Z2 v.2.2.2)],[],4096⟩
def MG (BM:Y4×Int×Y2×Y2->Option (Y2×Y2)) (v:Y4×Int×Y2×Y2):Option (Y2×Y2):=
 bif decide (v.2.1 < (v.1.length:Int)) then (BX v.1 v.2.1).bind λx1=>bif x1.1==1 then let x2:Y2:=([(1:Int)]:Y2);bif Nat.ble 1 1&&Nat.ble (List.length v.2.2.1+x2.length) lim then let x3:Y2:=([(1:Int)]:Y2);bif Nat.ble 1 1&&Nat.ble (List.length v.2.2.2+x3.length) lim then let x4:Int:=IntKind.i64.wrap (v.2.1+1);BM (v.1,x4,(List.append v.2.2.1 x2),(List.append v.2.2.2 x3)) else none else none else bif x1.1==3 then let x5:Y2:=([(16:Int)]:Y2);bif Nat.ble 1 1&&Nat.ble (List.length v.2.2.1+x5.length) lim then let x6:Y2:=([(8:Int)]:Y2);bif Nat.ble 1 1&&Nat.ble (List.length v.2.2.2+x6.length) lim then let x7:Int:=IntKind.i64.wrap (v.2.1+1);BM (v.1,x7,(List.append v.2.2.1 x5),(List.append v.2.2.2 x6)) else none else none else bif x1.1==7 then let x8:Y2:=([(24:Int)]:Y2);bif Nat.ble 1 1&&Nat.ble (List.length v.2.2.1+x8.length) lim then let x9:Y2:=([(8:Int)]:Y2);bif Nat.ble 1 1&&Nat.ble (List.length v.2.2.2+x9.length) lim then let FJ:Int:=IntKind.i64.wrap (v.2.1+1);BM (v.1,FJ,(List.append v.2.2.1 x8),(List.append v.2.2.2 x9)) else none else none else bif x1.1==6 then (BX v.1 v.2.1).bind λFQ=>((BX v.1 v.2.1).bind λKw=>bif decide (0<=Kw.2.1)&&decide (Kw.2.1 < (v.2.2.1.length:Int)) then (nth v.2.2.1 (Int.toNat Kw.2.1)).bind λNC=>let Ih:Int:=IntKind.i64.wrap (FQ.2.2.1 * NC);let H7:Int:=if Ih < 1000000 then Ih else (1000000:Int);((BX v.1 v.2.1).bind λQn=>bif decide (0<=Qn.2.1)&&decide (Qn.2.1 < (v.2.2.2.length:Int)) then (nth v.2.2.2 (Int.toNat Qn.2.1)).bind λSg=>bif Nat.ble 1 1&&Nat.ble (List.length v.2.2.1+List.length ([H7]:Y2)) lim then let VR:Y2:=List.append v.2.2.1 ([H7]:Y2);bif Nat.ble 1 1&&Nat.ble (List.length v.2.2.2+List.length ([Sg]:Y2)) lim then let VL:Y2:=List.append v.2.2.2 ([Sg]:Y2);let VT:Int:=IntKind.i64.wrap (v.2.1+1);BM (v.1,VT,VR,VL) else none else none else none) else none) else bif x1.1==5 then (BX v.1 v.2.1).bind λx21=>((Sv (v.2.2.1,v.2.2.2,x21.2.2.2.1)).bind λXd=>bif Nat.ble 1 1&&Nat.ble (List.length v.2.2.1+List.length ([Xd.2.1]:Y2)) lim then let x23:Y2:=List.append v.2.2.1 ([Xd.2.1]:Y2);bif Nat.ble 1 1&&Nat.ble (List.length v.2.2.2+List.length ([Xd.2.2]:Y2)) lim then let x24:Y2:=List.append v.2.2.2 ([Xd.2.2]:Y2);let x25:Int:=IntKind.i64.wrap (v.2.1+1);BM (v.1,x25,x23,x24) else none else none) else let jT:Y2:=([(8:Int)]:Y2);bif Nat.ble 1 1&&Nat.ble (List.length v.2.2.1+jT.length) lim then let x27:Y2:=List.append v.2.2.1 jT;let x28:Y2:=([(8:Int)]:Y2);bif Nat.ble 1 1&&Nat.ble (List.length v.2.2.2+x28.length) lim then let x29:Y2:=List.append v.2.2.2 x28;let x30:Int:=IntKind.i64.wrap (v.2.1+1);BM (v.1,x30,x27,x29) else none else none else some (v.2.2.1,v.2.2.2)
def Lj (N:Nat) (BM:Y4×Int×Y2×Y2->Option (Y2×Y2)) (v:Y4×Int×Y2×Y2):Option (Y2×Y2):=MG BM v
theorem QNQ (N:Nat) (s0) (v):(Bc QIS QJy 6 N f126 [Z5,Z5] [true,false] [] 0 BN) s0 (oU v)=Lj N (λv=>s0 (oU v)) v:=by kernel_rfl
def QU (BZ:Y4×Int×Y2×Y2->Option (Y2×Y2)) (x:Y4):Option (Y2×Y2):=
 BZ (x,(0:Int),([]:List Int),([]:List Int))
def Td (x:Y4):Option (Y2×Y2):=QU (BP (Lj big) big) x
def QJ2:Cb:=⟨[VN],[Z5,Z5],[true,false],λx=>Td x⟩
theorem QQN:Bb prog 126 QJ2:=DV QIS QJy (λN x=>QU (BP (Lj N) N) x) (eO (BO QWt BS)) func126 λN x=>Eq.trans (b:=QU (λv=>Bd (Bc QIS QJy 6 N f126 [Z5,Z5] [true,false] [] 0 BN) N (oU v)) x) (by kernel_rfl) (by rw [funext (BR oU (QNQ N) N)] <;> rfl)
def QY1:LT:={ live:=[],keep:=[],cnd:=[10,13,19,39,45,50] }
noncomputable def QVH:=eN tab []
def QAE (x:Int):Option Y2:=
 bif x==1 then some ([119,110,45]:List Int) else bif x==2 then some ([119,116,45]:List Int) else bif x==3 then some ([119,98,45]:List Int) else bif x==4 then some ([119,45,45]:List Int) else bif x==15 then some ([119,45,45]:List Int) else bif x==5 then some ([119,114,45]:List Int) else bif x==12 then some ([119,114,45]:List Int) else bif x==16 then some ([119,114,45]:List Int) else bif x==18 then some ([119,114,45]:List Int) else bif x==21 then some ([119,114,45]:List Int) else bif x==6 then some ([119,114,114]:List Int) else bif x==7 then some ([119,114,114]:List Int) else bif x==8 then some ([119,114,114]:List Int) else bif x==9 then some ([119,114,114]:List Int) else bif x==10 then some ([119,114,114]:List Int) else bif x==11 then some ([119,114,114]:List Int) else bif x==19 then some ([119,114,114]:List Int) else bif x==13 then some ([119,114,102]:List Int) else bif x==14 then some ([114,102,114]:List Int) else bif x==17 then some ([114,114,45]:List Int) else bif x==20 then some ([114,114,114]:List Int) else bif x==22 then some ([105,45,45]:List Int) else bif x==23 then some ([114,105,45]:List Int) else bif x==24 then some ([114,45,45]:List Int) else bif x==28 then some ([114,45,45]:List Int) else bif x==32 then some ([114,45,45]:List Int) else bif x==25 then some ([103,99,45]:List Int) else bif x==26 then some ([99,45,45]:List Int) else bif x==27 then some ([99,45,45]:List Int) else bif x==29 then some ([119,119,45]:List Int) else bif x==30 then some ([45,45,45]:List Int) else bif x==31 then some ([45,45,45]:List Int) else bif x==33 then some ([119,114,45]:List Int) else bif x==34 then some ([101,45,45]:List Int) else some ([]:List Int)
def Jr (x:Int):Option Y2:=QAE x
def QEq:Cb:=⟨[LU],[.str],[false],λx=>Jr x⟩
theorem QJR:Bb prog 91 QEq:=DV QVH QY1 (λ_=>Jr) (eO BS) func91
def QY2:LT:=lT []
noncomputable def QVI:=eN tab []
def nN (x:Sj):Option Y2:=
 let x1:Y2:=[x.2.1,x.2.2.1,x.2.2.2.1];some x1
def D7 (x:Sj):Option Y2:=nN x
def QEr:Cb:=⟨[Z3],[Z19],[false],λx=>D7 x⟩
theorem QJS:Bb prog 92 QEr:=DV QVI QY2 (λ_=>D7) (eO BS) func92
def QY3:LT:=lT []
noncomputable def QVJ:=eN tab []
def mR (x:vX):Option Bool:=
 bif x.1==45 then some (x.2==0) else bif x.1==119 then bif x.1==119 then bif decide (x.2>=0) then some (decide (x.2 < 16)) else some false else bif x.1==103 then bif x.1==103 then bif decide (x.2>=(-1:Int)) then some (decide (x.2 < 16)) else some false else bif x.1==116 then bif x.1==116 then bif decide (x.2>=0) then some (decide (x.2 < 32)) else some false else bif x.1==98 then bif decide (x.2>=0) then some (decide (x.2 < 2)) else some false else bif x.1==102 then bif decide (x.2>=0) then some (decide (x.2 < 8)) else some false else bif x.1==105 then bif decide (x.2>=0) then some (decide (x.2 < 200)) else some false else some true else bif x.1==99 then bif decide (x.2>=0) then some (decide (x.2 < 32)) else some false else bif x.1==98 then bif decide (x.2>=0) then some (decide (x.2 < 2)) else some false else bif x.1==102 then bif decide (x.2>=0) then some (decide (x.2 < 8)) else some false else bif x.1==105 then bif decide (x.2>=0) then some (decide (x.2 < 200)) else some false else some true else bif x.1==101 then bif decide (x.2>=(-1:Int)) then some (decide (x.2 < 16)) else some false else bif x.1==116 then bif x.1==116 then bif decide (x.2>=0) then some (decide (x.2 < 32)) else some false else bif x.1==98 then bif decide (x.2>=0) then some (decide (x.2 < 2)) else some false else bif x.1==102 then bif decide (x.2>=0) then some (decide (x.2 < 8)) else some false else bif x.1==105 then bif decide (x.2>=0) then some (decide (x.2 < 200)) else some false else some true else bif x.1==99 then bif decide (x.2>=0) then some (decide (x.2 < 32)) else some false else bif x.1==98 then bif decide (x.2>=0) then some (decide (x.2 < 2)) else some false else bif x.1==102 then bif decide (x.2>=0) then some (decide (x.2 < 8)) else some false else bif x.1==105 then bif decide (x.2>=0) then some (decide (x.2 < 200)) else some false else some true else bif x.1==114 then bif decide (x.2>=0) then some (decide (x.2 < 16)) else some false else bif x.1==103 then bif x.1==103 then bif decide (x.2>=(-1:Int)) then some (decide (x.2 < 16)) else some false else bif x.1==116 then bif x.1==116 then bif decide (x.2>=0) then some (decide (x.2 < 32)) else some false else bif x.1==98 then bif decide (x.2>=0) then some (decide (x.2 < 2)) else some false else bif x.1==102 then bif decide (x.2>=0) then some (decide (x.2 < 8)) else some false else bif x.1==105 then bif decide (x.2>=0) then some (decide (x.2 < 200)) else some false else some true else bif x.1==99 then bif decide (x.2>=0) then some (decide (x.2 < 32)) else some false else bif x.1==98 then bif decide (x.2>=0) then some (decide (x.2 < 2)) else some false else bif x.1==102 then bif decide (x.2>=0) then some (decide (x.2 < 8)) else some false else bif x.1==105 then bif decide (x.2>=0) then some (decide (x.2 < 200)) else some false else some true else bif x.1==101 then bif decide (x.2>=(-1:Int)) then some (decide (x.2 < 16)) else some false else bif x.1==116 then bif x.1==116 then bif decide (x.2>=0) then some (decide (x.2 < 32)) else some false else bif x.1==98 then bif decide (x.2>=0) then some (decide (x.2 < 2)) else some false else bif x.1==102 then bif decide (x.2>=0) then some (decide (x.2 < 8)) else some false else bif x.1==105 then bif decide (x.2>=0) then some (decide (x.2 < 200)) else some false else some true else bif x.1==99 then bif decide (x.2>=0) then some (decide (x.2 < 32)) else some false else bif x.1==98 then bif decide (x.2>=0) then some (decide (x.2 < 2)) else some false else bif x.1==102 then bif decide (x.2>=0) then some (decide (x.2 < 8)) else some false else bif x.1==105 then bif decide (x.2>=0) then some (decide (x.2 < 200)) else some false else some true
def Ry (x:vX):Option Bool:=mR x
def QPg:Cb:=⟨[LU,Z2],[.bool],[false],λx=>Ry x⟩
theorem QWu:Bb prog 167 QPg:=DV QVJ QY3 (λ_=>Ry) (eO BS) func167
def QJz:LT:=lT [(5,[3,4,5])]
noncomputable def QIT:=eN tab [(91,QEq),(92,QEr),(167,QPg)]
noncomputable def oV (v:Y94):St:=⟨[sV 3 .str v.1,(4,.loc 0 []),sV 5 Z2 v.2.1],[(0,.var Z19 (.val ⟨Z19,v.2.2⟩))],[],4096⟩
def MH (BM:Y94->Option Int) (v:Y94):Option Int:=
 bif decide (v.2.1 < 3) then (BX v.1 v.2.1).bind λx3=>bif decide (0<=v.2.1)&&decide (v.2.1 < 3) then (nth v.2.2 (Int.toNat v.2.1)).bind λx4=>((Ry (x3,x4)).bind λx5=>bif !x5 then some (8:Int) else let x6:Int:=IntKind.i64.wrap (v.2.1+1);BM (v.1,x6,v.2.2)) else none else some (0:Int)
def Ee (N:Nat) (BM:Y94->Option Int) (v:Y94):Option Int:=MH BM v
theorem QNR (N:Nat) (s0) (v):(Bc QIT QJz 6 N f128 [Z2] [false] [] 0 BN) s0 (oV v)=Ee N (λv=>s0 (oV v)) v:=by kernel_rfl
def J5 (BZ:Y94->Option Int) (x:Sj):Option Int:=
 (Jr x.1).bind λx1=>(D7 x).bind λx2=>bif (x1.length:Int) != 3 then some (8:Int) else BZ (x1,(0:Int),x2)
def PG (x:Sj):Option Int:=J5 (BP (Ee big) big) x
def QJ3:Cb:=⟨[Z3],[Z2],[false],λx=>PG x⟩
theorem QQO:Bb prog 128 QJ3:=DV QIT QJz (λN x=>J5 (BP (Ee N) N) x) (eO (BO QJR (BO QJS (BO QWu BS)))) func128 λN x=>Eq.trans (b:=J5 (λv=>Bd (Bc QIT QJz 6 N f128 [Z2] [false] [] 0 BN) N (oV v)) x) (by kernel_rfl) (by rw [funext (BR oV (QNR N) N)] <;> rfl)
def QK0:LT:=lT [(4,[0,1,5])]
noncomputable def QIU:=eN tab []
noncomputable def oW (v:Y90):St:=⟨[sV 0 dA v.1,sV 1 Z2 v.2.1,sV 5 Z2 v.2.2],[],[],4096⟩
def IW (BM:Y90->Option Bool) (v:Y90):Option Bool:=
 bif decide (v.2.2 < (v.1.length:Int)) then (BX v.1 v.2.2).bind λx2=>bif decide (x2.1>=v.2.1) then some false else bif decide (v.2.2 > 0) then let x3:Int:=IntKind.i64.wrap (v.2.2 - 1);(BX v.1 x3).bind λx4=>((BX v.1 v.2.2).bind λx5=>bif decide (x4.1>=x5.1) then some false else let x6:Int:=IntKind.i64.wrap (v.2.2 - 1);(BX v.1 x6).bind λx7=>((BX v.1 v.2.2).bind λx8=>bif x7.2.1==x8.2.1 then some false else let x9:Int:=IntKind.i64.wrap (v.2.2+1);BM (v.1,v.2.1,x9))) else let FJ:Int:=IntKind.i64.wrap (v.2.2+1);BM (v.1,v.2.1,FJ) else some true
def Nq (N:Nat) (BM:Y90->Option Bool) (v:Y90):Option Bool:=IW BM v
theorem QNS (N:Nat) (s0) (v):(Bc QIU QK0 6 N f166 [.bool] [false] [] 0 BN) s0 (oW v)=Nq N (λv=>s0 (oW v)) v:=by kernel_rfl
def SG (BZ:Y90->Option Bool) (x:Y9×Int):Option Bool:=
 bif decide ((x.1.length:Int) < 1) then some false else (BX x.1 (0:Int)).bind λx1=>bif x1.1 != 0 then some false else BZ (x.1,x.2,(0:Int))
def Vg (x:Y9×Int):Option Bool:=SG (BP (Nq big) big) x
def QPh:Cb:=⟨[dA,Z2],[.bool],[false],λx=>Vg x⟩
theorem QWv:Bb prog 166 QPh:=DV QIU QK0 (λN x=>SG (BP (Nq N) N) x) (eO BS) func166 λN x=>Eq.trans (b:=SG (λv=>Bd (Bc QIU QK0 6 N f166 [.bool] [false] [] 0 BN) N (oW v)) x) (by kernel_rfl) (by rw [funext (BR oW (QNS N) N)] <;> rfl)
def QB7:LT:=lT [(4,[0,3,5]),(9,[3,6])]
noncomputable def QAp:=eN tab [(128,QJ3),(164,QIz),(165,QJ0),(166,QPh)]
noncomputable def oZ (v:Int×Y0):St:=⟨[(3,.loc 0 []),sV 6 Z2 v.1],[(0,.var Z0 (.val ⟨Z0,v.2⟩))],[],4096⟩
noncomputable def aV (v:Y4×Int×Y0):St:=⟨[sV 0 VN v.1,(3,.loc 0 []),sV 5 Z2 v.2.1],[(0,.var Z0 (.val ⟨Z0,v.2.2⟩))],[],4096⟩
def P6 (BM:Y4×Int×Y0->Option Bool) (BQ:Int×Y0->Option Bool) (v:Int×Y0):Option Bool:=
 bif decide (v.1 < (v.2.2.2.2.2.1.length:Int)) then (BX v.2.2.2.2.2.1 v.1).bind λx6=>((PG x6).bind λx7=>bif x7 != 0 then some false else let x8:Int:=IntKind.i64.wrap (v.1+1);BQ (x8,v.2)) else (Vg (v.2.2.2.2.2.2.1,(v.2.2.2.2.2.1.length:Int))).bind λx9=>bif x9 then (Vg (v.2.2.2.2.2.2.2.1,(v.2.2.2.2.2.1.length:Int))).bind λFJ=>some FJ else some false
def FX (N:Nat) (BM:Y4×Int×Y0->Option Bool) (BQ:Int×Y0->Option Bool) (v:Int×Y0):Option Bool:=P6 BM BQ v
theorem QNU (N:Nat) (s0:St->Option Bool) (s1) (v):(Bc QAp QB7 6 N f127 [.bool] [false] [] 1 BN) s1 (oZ v)=FX N (λv=>s0 (aV v)) (λv=>s1 (oZ v)) v:=by kernel_rfl
def K9 (Ca:Int×Y0->Option Bool) (BM:Y4×Int×Y0->Option Bool) (v:Y4×Int×Y0):Option Bool:=
 bif decide (v.2.1 < (v.2.2.2.2.2.1.length:Int)) then (BX v.2.2.2.2.2.1 v.2.1).bind λx3=>bif decide (x3.2.1 < 0) then some false else (BX v.2.2.2.2.2.1 v.2.1).bind λx4=>bif decide (x4.2.1>=(v.1.length:Int)) then some false else let x5:Int:=IntKind.i64.wrap (v.2.1+1);BM (v.1,x5,v.2.2) else Ca ((0:Int),v.2.2)
def Ef (N:Nat) (BM:Y4×Int×Y0->Option Bool) (v:Y4×Int×Y0):Option Bool:=K9 (BP (FX N BM) N) BM v
theorem QNT (N:Nat) (s0) (v):(Bc QAp QB7 6 N f127 [.bool] [false] [] 0 BN) s0 (aV v)=Ef N (λv=>s0 (aV v)) v:=Eq.trans (b:=K9 (λv=>Bd (Bc QAp QB7 6 N f127 [.bool] [false] [] 1 BN) N (oZ v)) (λv=>s0 (aV v)) v) (by kernel_rfl) (by rw [funext (BR oZ (QNU N s0) N)];rfl)
def KW (BZ:Y4×Int×Y0->Option Bool) (x:Y4×Y0):Option Bool:=
 (TY x.2.1).bind λx1=>bif !x1 then some false else (Na (x.2.2.2.2.1,(16:Int))).bind λx2=>bif !x2 then some false else bif decide (x.2.2.1 < 0) then some false else bif decide (x.2.2.1 > (x.2.2.2.2.1.length:Int)) then some false else bif decide (x.2.2.2.1 < (-1:Int)) then some false else bif decide (x.2.2.2.1>=(x.1.length:Int)) then some false else bif decide ((x.2.2.2.2.2.1.length:Int) < 1) then some false else bif decide ((x.2.2.2.2.2.1.length:Int) > 200) then some false else BZ (x.1,(0:Int),x.2)
def Sw (x:Y4×Y0):Option Bool:=KW (BP (Ef big) big) x
def QPi:Cb:=⟨[VN,Z0],[.bool],[false],λx=>Sw x⟩
theorem QWw:Bb prog 127 QPi:=DV QAp QB7 (λN x=>KW (BP (Ef N) N) x) (eO (BO QQO (BO QQK (BO QQL (BO QWv BS))))) func127 λN x=>Eq.trans (b:=KW (λv=>Bd (Bc QAp QB7 6 N f127 [.bool] [false] [] 0 BN) N (aV v)) x) (by kernel_rfl) (by rw [funext (BR aV (QNT N) N)] <;> rfl)
def gJ:LT:=lT [(5,[1,3,5]),(10,[1,6]),(15,[1,7]),(20,[1,7,8])]
noncomputable def fV:=eN tab [(125,QPe),(126,QJ2),(127,QPi)]
noncomputable def og (v:Y87):St:=⟨[(1,.loc 0 []),sV 7 Z2 v.1,sV 8 Z2 v.2.1],[(0,.var Z1 (.val ⟨Z1,v.2.2⟩))],[],4096⟩
noncomputable def aW (v:aI):St:=⟨[(1,.loc 0 []),sV 7 Z2 v.1],[(0,.var Z1 (.val ⟨Z1,v.2⟩))],[],4096⟩
noncomputable def Vo (v:aI):St:=⟨[(1,.loc 0 []),sV 6 Z2 v.1],[(0,.var Z1 (.val ⟨Z1,v.2⟩))],[],4096⟩
noncomputable def Rh (v:Wp):St:=⟨[(1,.loc 0 []),(3,.row 1),sV 5 Z2 v.1],[(0,.var Z1 (.val ⟨Z1,v.2.1⟩)),(1,.row Z2 v.2.2)],[],4096⟩
def WM (BM:Wp->Option Bool) (BQ:aI->Option Bool) (Bp:aI->Option Bool) (Qj:Y87->Option Bool) (v:Y87):Option Bool:=
 bif decide (v.2.1 < v.1) then (BX v.2.2.2.2.1 v.2.1).bind λx9=>((BX v.2.2.2.2.1 v.1).bind λFJ=>bif R3 .str x9.1 FJ.1 then some false else let FQ:Int:=IntKind.i64.wrap (v.2.1+1);Qj (v.1,FQ,v.2.2)) else let Kw:Int:=IntKind.i64.wrap (v.1+1);Bp (Kw,v.2.2)
def Kh (N:Nat) (BM:Wp->Option Bool) (BQ:aI->Option Bool) (Bp:aI->Option Bool) (Qj:Y87->Option Bool) (v:Y87):Option Bool:=WM BM BQ Bp Qj v
theorem QNY (N:Nat) (s0:St->Option Bool) (s1:St->Option Bool) (s2) (s3) (v):(Bc fV gJ 6 N f84 [.bool] [false] [] 3 (CS s2 BN)) s3 (og v)=Kh N (λv=>s0 (Rh v)) (λv=>s1 (Vo v)) (λv=>s2 (aW v)) (λv=>s3 (og v)) v:=by kernel_rfl
def Rt (sP:Y87->Option Bool) (BM:Wp->Option Bool) (BQ:aI->Option Bool) (Bp:aI->Option Bool) (v:aI):Option Bool:=
 bif decide (v.1 < (v.2.2.2.1.length:Int)) then (BX v.2.2.2.1 v.1).bind λx7=>(Sw (v.2.1,x7)).bind λx8=>bif !x8 then some false else sP (v.1,(0:Int),v.2) else some true
def Kg (N:Nat) (BM:Wp->Option Bool) (BQ:aI->Option Bool) (Bp:aI->Option Bool) (v:aI):Option Bool:=Rt (BP (Kh N BM BQ Bp) N) BM BQ Bp v
theorem QNX (N:Nat) (s0:St->Option Bool) (s1:St->Option Bool) (s2) (v):(Bc fV gJ 6 N f84 [.bool] [false] [] 2 BN) s2 (aW v)=Kg N (λv=>s0 (Rh v)) (λv=>s1 (Vo v)) (λv=>s2 (aW v)) v:=Eq.trans (b:=Rt (λv=>Bd (Bc fV gJ 6 N f84 [.bool] [false] [] 3 (CS s2 BN)) N (og v)) (λv=>s0 (Rh v)) (λv=>s1 (Vo v)) (λv=>s2 (aW v)) v) (by kernel_rfl) (by rw [funext (BR og (QNY N s0 s1 s2) N)];rfl)
def Rs (QB:aI->Option Bool) (BM:Wp->Option Bool) (BQ:aI->Option Bool) (v:aI):Option Bool:=
 bif decide (v.1 < (v.2.2.1.length:Int)) then (BX v.2.2.1 v.1).bind λx5=>bif decide ((x5.length:Int) > 64) then some false else let x6:Int:=IntKind.i64.wrap (v.1+1);BQ (x6,v.2) else QB ((0:Int),v.2)
def Ke (N:Nat) (BM:Wp->Option Bool) (BQ:aI->Option Bool) (v:aI):Option Bool:=Rs (BP (Kg N BM BQ) N) BM BQ v
theorem QNW (N:Nat) (s0:St->Option Bool) (s1) (v):(Bc fV gJ 6 N f84 [.bool] [false] [] 1 BN) s1 (Vo v)=Ke N (λv=>s0 (Rh v)) (λv=>s1 (Vo v)) v:=Eq.trans (b:=Rs (λv=>Bd (Bc fV gJ 6 N f84 [.bool] [false] [] 2 BN) N (aW v)) (λv=>s0 (Rh v)) (λv=>s1 (Vo v)) v) (by kernel_rfl) (by rw [funext (BR aW (QNX N s0 s1) N)];rfl)
def Rq (Ca:aI->Option Bool) (BM:Wp->Option Bool) (v:Wp):Option Bool:=
 bif decide (v.1 < (v.2.2.length:Int)) then bif decide (0<=v.1)&&decide (v.1 < (v.2.2.length:Int)) then (nth v.2.2 (Int.toNat v.1)).bind λx3=>bif decide (x3 > 256) then some false else let x4:Int:=IntKind.i64.wrap (v.1+1);BM (x4,v.2.1,v.2.2) else none else Ca ((0:Int),v.2.1)
def IQ (N:Nat) (BM:Wp->Option Bool) (v:Wp):Option Bool:=Rq (BP (Ke N BM) N) BM v
theorem QNV (N:Nat) (s0) (v):(Bc fV gJ 6 N f84 [.bool] [false] [] 0 BN) s0 (Rh v)=IQ N (λv=>s0 (Rh v)) v:=Eq.trans (b:=Rq (λv=>Bd (Bc fV gJ 6 N f84 [.bool] [false] [] 1 BN) N (Vo v)) (λv=>s0 (Rh v)) v) (by kernel_rfl) (by rw [funext (BR Vo (QNW N s0) N)];rfl)
def SL (BZ:Wp->Option Bool) (x:Y1):Option Bool:=
 (Xv x.1).bind λx1=>bif x1 != 0 then some false else bif decide ((x.2.1.length:Int) > 32) then some false else bif decide ((x.2.2.1.length:Int) < 1) then some false else bif decide ((x.2.2.1.length:Int) > 32) then some false else (Td x.1).bind λx2=>BZ ((0:Int),x,x2.1)
def ZR (x:Y1):Option Bool:=SL (BP (IQ big) big) x
def QPj:Cb:=⟨[Z1],[.bool],[false],λx=>ZR x⟩
theorem QWx:Bb prog 84 QPj:=DV fV gJ (λN x=>SL (BP (IQ N) N) x) (eO (BO QWs (BO QQN (BO QWw BS)))) func84 λN x=>Eq.trans (b:=SL (λv=>Bd (Bc fV gJ 6 N f84 [.bool] [false] [] 0 BN) N (Rh v)) x) (by kernel_rfl) (by rw [funext (BR Rh (QNV N) N)] <;> rfl)
def QK1:LT:=lT [(2,[0,3])]
noncomputable def QIV:=eN tab []
noncomputable def oh (v:Int×Y2):St:=⟨[sV 0 ZF v.1,(3,.row 0)],[(0,.row LU v.2)],[],4096⟩
def Q7 (BM:Int×Y2->Option Y2) (v:Int×Y2):Option Y2:=
 bif decide (v.1>=128) then let x1:Int:=IntKind.u8.wrap (v.1.tmod (128:Int));let x2:Int:=IntKind.u8.wrap (x1+128);bif Nat.ble 1 1&&Nat.ble (List.length v.2+List.length ([x2]:Y2)) lim then let x3:Y2:=List.append v.2 ([x2]:Y2);let x4:Int:=IntKind.u64.wrap (v.1.tdiv (128:Int));BM (x4,x3) else none else let x5:Y2:=([(IntKind.u8.wrap v.1)]:Y2);bif Nat.ble 1 1&&Nat.ble (List.length v.2+x5.length) lim then some (List.append v.2 x5) else none
def GI (N:Nat) (BM:Int×Y2->Option Y2) (v:Int×Y2):Option Y2:=Q7 BM v
theorem QNZ (N:Nat) (s0) (v):(Bc QIV QK1 6 N f55 [Sd] [true] [] 0 BN) s0 (oh v)=GI N (λv=>s0 (oh v)) v:=by kernel_rfl
def VE (BZ:Int×Y2->Option Y2) (x:Int):Option Y2:=
 BZ (x,([]:List Int))
def DZ (x:Int):Option Y2:=VE (BP (GI big) big) x
def vS:Cb:=⟨[ZF],[Sd],[true],λx=>DZ x⟩
theorem QB0:Bb prog 55 vS:=DV QIV QK1 (λN x=>VE (BP (GI N) N) x) (eO BS) func55 λN x=>Eq.trans (b:=VE (λv=>Bd (Bc QIV QK1 6 N f55 [Sd] [true] [] 0 BN) N (oh v)) x) (by kernel_rfl) (by rw [funext (BR oh (QNZ N) N)] <;> rfl)
def QY4:LT:=lT []
noncomputable def QVK:=eN tab [(55,vS)]
def Wi (x:Int):Option Y2:=
 (DZ (IntKind.u64.wrap x)).bind λx1=>some x1
def Bz (x:Int):Option Y2:=Wi x
def QJ4:Cb:=⟨[Z2],[Sd],[true],λx=>Bz x⟩
theorem QQP:Bb prog 52 QJ4:=DV QVK QY4 (λ_=>Bz) (eO (BO QB0 BS)) func52
def QY5:LT:=lT []
noncomputable def QVL:=eN tab [(55,vS)]
def mQ (x:Y2):Option Y2:=
 let x1:Int:=IntKind.u64.wrap (x.length:Int);(DZ x1).bind λx2=>bif Nat.ble 1 1&&Nat.ble (List.length x2+x.length) lim then some (List.append x2 x) else none
def Lb (x:Y2):Option Y2:=mQ x
def QJ5:Cb:=⟨[.str],[Sd],[true],λx=>Lb x⟩
theorem QQR:Bb prog 54 QJ5:=DV QVL QY5 (λ_=>Lb) (eO (BO QB0 BS)) func54
def QK2:LT:=lT [(3,[0,3,4])]
noncomputable def QIW:=eN tab [(52,QJ4),(54,QJ5)]
noncomputable def om (v:Y6×Int×Y2):St:=⟨[sV 0 Z8 v.1,(3,.row 0),sV 4 Z2 v.2.1],[(0,.row LU v.2.2)],[],4096⟩
def TB (BM:Y6×Int×Y2->Option Y2) (v:Y6×Int×Y2):Option Y2:=
 bif decide (v.2.1 < (v.1.length:Int)) then (BX v.1 v.2.1).bind λx2=>(Lb x2.1).bind λx3=>bif Nat.ble 1 1&&Nat.ble (List.length v.2.2+x3.length) lim then (BX v.1 v.2.1).bind λx4=>((Bz x4.2.1).bind λx5=>bif Nat.ble 1 1&&Nat.ble (List.length (List.append v.2.2 x3)+x5.length) lim then let x6:Y2:=List.append (List.append v.2.2 x3) x5;let x7:Int:=IntKind.i64.wrap (v.2.1+1);BM (v.1,x7,x6) else none) else none else some v.2.2
def Fg (N:Nat) (BM:Y6×Int×Y2->Option Y2) (v:Y6×Int×Y2):Option Y2:=TB BM v
theorem QNa (N:Nat) (s0) (v):(Bc QIW QK2 6 N f53 [Sd] [true] [] 0 BN) s0 (om v)=Fg N (λv=>s0 (om v)) v:=by kernel_rfl
def N7 (BZ:Y6×Int×Y2->Option Y2) (x:Y6):Option Y2:=
 (Bz (x.length:Int)).bind λx1=>BZ (x,(0:Int),x1)
def Kc (x:Y6):Option Y2:=N7 (BP (Fg big) big) x
def QPk:Cb:=⟨[Z8],[Sd],[true],λx=>Kc x⟩
theorem QWy:Bb prog 53 QPk:=DV QIW QK2 (λN x=>N7 (BP (Fg N) N) x) (eO (BO QQP (BO QQR BS))) func53 λN x=>Eq.trans (b:=N7 (λv=>Bd (Bc QIW QK2 6 N f53 [Sd] [true] [] 0 BN) N (om v)) x) (by kernel_rfl) (by rw [funext (BR om (QNa N) N)] <;> rfl)
def QY6:LT:=lT []
noncomputable def QVM:=eN tab []
def dP (x:Int):Option Int:=
 bif decide (x>=0) then let x1:Int:=IntKind.u64.wrap ((IntKind.u64.wrap x) * 2);some x1 else let x2:Int:=IntKind.i64.wrap (x+1);let x3:Int:=IntKind.i64.wrap (0 - x2);let x4:Int:=IntKind.u64.wrap ((IntKind.u64.wrap x3) * 2);let x5:Int:=IntKind.u64.wrap (x4+1);some x5
def Ka (x:Int):Option Int:=dP x
def QJ6:Cb:=⟨[Z2],[ZF],[false],λx=>Ka x⟩
theorem QQS:Bb prog 56 QJ6:=DV QVM QY6 (λ_=>Ka) (eO BS) func56
def QY7:LT:=lT []
noncomputable def QVN:=eN tab []
def vN (x:Int):Option Bool:=
 bif x==110 then some true else bif x==103 then some true else some (x==101)
def RZ (x:Int):Option Bool:=vN x
def QPl:Cb:=⟨[LU],[.bool],[false],λx=>RZ x⟩
theorem QWz:Bb prog 100 QPl:=DV QVN QY7 (λ_=>RZ) (eO BS) func100
def QK3:LT:=lT [(4,[3,4,5,6])]
noncomputable def QIX:=eN tab [(55,vS),(56,QJ6),(91,QEq),(92,QEr),(100,QPl)]
noncomputable def oo (v:Y84):St:=⟨[(3,.row 0),sV 4 .str v.1,(5,.loc 1 []),sV 6 Z2 v.2.1],[(0,.row LU v.2.2.1),(1,.var Z19 (.val ⟨Z19,v.2.2.2⟩))],[],4096⟩
def Ui (BM:Y84->Option Y2) (v:Y84):Option Y2:=
 bif decide (v.2.1 < 3) then (BX v.1 v.2.1).bind λx3=>bif x3==45 then let x4:Int:=IntKind.i64.wrap (v.2.1+1);BM (v.1,x4,v.2.2.1,v.2.2.2) else (BX v.1 v.2.1).bind λx5=>(RZ x5).bind λx6=>bif x6 then bif decide (0<=v.2.1)&&decide (v.2.1 < 3) then (nth v.2.2.2 (Int.toNat v.2.1)).bind λx7=>(Ka x7).bind λx8=>((DZ x8).bind λx9=>bif Nat.ble 1 1&&Nat.ble (List.length v.2.2.1+x9.length) lim then let FJ:Int:=IntKind.i64.wrap (v.2.1+1);BM (v.1,FJ,(List.append v.2.2.1 x9),v.2.2.2) else none) else none else bif decide (0<=v.2.1)&&decide (v.2.1 < 3) then (nth v.2.2.2 (Int.toNat v.2.1)).bind λFQ=>((DZ (IntKind.u64.wrap FQ)).bind λKw=>bif Nat.ble 1 1&&Nat.ble (List.length v.2.2.1+Kw.length) lim then let NC:Y2:=List.append v.2.2.1 Kw;let Ih:Int:=IntKind.i64.wrap (v.2.1+1);BM (v.1,Ih,NC,v.2.2.2) else none) else none else some v.2.2.1
def Ll (N:Nat) (BM:Y84->Option Y2) (v:Y84):Option Y2:=Ui BM v
theorem QNb (N:Nat) (s0) (v):(Bc QIX QK3 6 N f57 [Sd] [true] [] 0 BN) s0 (oo v)=Ll N (λv=>s0 (oo v)) v:=by kernel_rfl
def QV (BZ:Y84->Option Y2) (x:Sj):Option Y2:=
 (Jr x.1).bind λx1=>(D7 x).bind λx2=>BZ (x1,(0:Int),([x.1]:Y2),x2)
def Xx (x:Sj):Option Y2:=QV (BP (Ll big) big) x
def QPm:Cb:=⟨[Z3],[Sd],[true],λx=>Xx x⟩
theorem QX0:Bb prog 57 QPm:=DV QIX QK3 (λN x=>QV (BP (Ll N) N) x) (eO (BO QB0 (BO QQS (BO QJR (BO QJS (BO QWz BS)))))) func57 λN x=>Eq.trans (b:=QV (λv=>Bd (Bc QIX QK3 6 N f57 [Sd] [true] [] 0 BN) N (oo v)) x) (by kernel_rfl) (by rw [funext (BR oo (QNb N) N)] <;> rfl)
def QK4:LT:=lT [(4,[0,3,4,5])]
noncomputable def QIY:=eN tab [(55,vS)]
noncomputable def oq (v:Y9×Int×Int×Y2):St:=⟨[sV 0 dA v.1,(3,.row 0),sV 4 Z2 v.2.1,sV 5 Z2 v.2.2.1],[(0,.row LU v.2.2.2)],[],4096⟩
def MJ (BM:Y9×Int×Int×Y2->Option Y2) (v:Y9×Int×Int×Y2):Option Y2:=
 bif decide (v.2.2.1 < (v.1.length:Int)) then (BX v.1 v.2.2.1).bind λx3=>let x4:Int:=IntKind.i64.wrap (x3.1 - v.2.1);(DZ (IntKind.u64.wrap x4)).bind λx5=>bif Nat.ble 1 1&&Nat.ble (List.length v.2.2.2+x5.length) lim then (BX v.1 v.2.2.1).bind λx6=>((DZ x6.2.1).bind λx7=>bif Nat.ble 1 1&&Nat.ble (List.length (List.append v.2.2.2 x5)+x7.length) lim then let x8:Y2:=List.append (List.append v.2.2.2 x5) x7;((BX v.1 v.2.2.1).bind λx9=>let FJ:Int:=IntKind.i64.wrap (v.2.2.1+1);BM (v.1,x9.1,FJ,x8)) else none) else none else some v.2.2.2
def Lp (N:Nat) (BM:Y9×Int×Int×Y2->Option Y2) (v:Y9×Int×Int×Y2):Option Y2:=MJ BM v
theorem QNc (N:Nat) (s0) (v):(Bc QIY QK4 6 N f58 [Sd] [true] [] 0 BN) s0 (oq v)=Lp N (λv=>s0 (oq v)) v:=by kernel_rfl
def QX (BZ:Y9×Int×Int×Y2->Option Y2) (x:Y9):Option Y2:=
 let x1:Int:=IntKind.u64.wrap (x.length:Int);(DZ x1).bind λx2=>BZ (x,(0:Int),(0:Int),x2)
def Te (x:Y9):Option Y2:=QX (BP (Lp big) big) x
def QPn:Cb:=⟨[dA],[Sd],[true],λx=>Te x⟩
theorem QX1:Bb prog 58 QPn:=DV QIY QK4 (λN x=>QX (BP (Lp N) N) x) (eO (BO QB0 BS)) func58 λN x=>Eq.trans (b:=QX (λv=>Bd (Bc QIY QK4 6 N f58 [Sd] [true] [] 0 BN) N (oq v)) x) (by kernel_rfl) (by rw [funext (BR oq (QNc N) N)] <;> rfl)
def gK:LT:=lT [(3,[1,3,4]),(17,[1,3,6]),(22,[1,3,7]),(29,[1,3,7,8,9])]
noncomputable def fZ:=eN tab [(52,QJ4),(53,QPk),(54,QJ5),(55,vS),(56,QJ6),(57,QPm),(58,QPn)]
noncomputable def ou (v:Y72):St:=⟨[(1,.loc 0 []),(3,.row 1),sV 7 Z2 v.1,(8,.loc 2 []),sV 9 Z2 v.2.1],[(0,.var Z1 (.val ⟨Z1,v.2.2.1⟩)),(1,.row LU v.2.2.2.1),(2,.var Z0 (.val ⟨Z0,v.2.2.2.2⟩))],[],4096⟩
noncomputable def aX (v:Wp):St:=⟨[(1,.loc 0 []),(3,.row 1),sV 7 Z2 v.1],[(0,.var Z1 (.val ⟨Z1,v.2.1⟩)),(1,.row LU v.2.2)],[],4096⟩
noncomputable def Vp (v:Wp):St:=⟨[(1,.loc 0 []),(3,.row 1),sV 6 Z2 v.1],[(0,.var Z1 (.val ⟨Z1,v.2.1⟩)),(1,.row LU v.2.2)],[],4096⟩
noncomputable def Ri (v:Wp):St:=⟨[(1,.loc 0 []),(3,.row 1),sV 4 Z2 v.1],[(0,.var Z1 (.val ⟨Z1,v.2.1⟩)),(1,.row LU v.2.2)],[],4096⟩
def Uj (BM:Wp->Option Y2) (BQ:Wp->Option Y2) (Bp:Wp->Option Y2) (Qj:Y72->Option Y2) (v:Y72):Option Y2:=
 bif decide (v.2.1 < (v.2.2.2.2.2.2.2.2.1.length:Int)) then (BX v.2.2.2.2.2.2.2.2.1 v.2.1).bind λx36=>((Xx x36).bind λx37=>bif Nat.ble 1 1&&Nat.ble (List.length v.2.2.2.1+x37.length) lim then let x38:Y2:=List.append v.2.2.2.1 x37;let x39:Int:=IntKind.i64.wrap (v.2.1+1);Qj (v.1,x39,v.2.2.1,x38,v.2.2.2.2) else none) else (Te v.2.2.2.2.2.2.2.2.2.1).bind λx40=>bif Nat.ble 1 1&&Nat.ble (List.length v.2.2.2.1+x40.length) lim then let x41:Y2:=List.append v.2.2.2.1 x40;((Te v.2.2.2.2.2.2.2.2.2.2.1).bind λx42=>bif Nat.ble 1 1&&Nat.ble (List.length x41+x42.length) lim then let x43:Int:=IntKind.i64.wrap (v.1+1);Bp (x43,v.2.2.1,(List.append x41 x42)) else none) else none
def JD (N:Nat) (BM:Wp->Option Y2) (BQ:Wp->Option Y2) (Bp:Wp->Option Y2) (Qj:Y72->Option Y2) (v:Y72):Option Y2:=Uj BM BQ Bp Qj v
theorem QNg (N:Nat) (s0:St->Option Y2) (s1:St->Option Y2) (s2) (s3) (v):(Bc fZ gK 6 N f25 [Sd] [true] [] 3 (CS s2 BN)) s3 (ou v)=JD N (λv=>s0 (Ri v)) (λv=>s1 (Vp v)) (λv=>s2 (aX v)) (λv=>s3 (ou v)) v:=by kernel_rfl
def Py (sP:Y72->Option Y2) (BM:Wp->Option Y2) (BQ:Wp->Option Y2) (Bp:Wp->Option Y2) (v:Wp):Option Y2:=
 bif decide (v.1 < (v.2.1.2.2.1.length:Int)) then (BX v.2.1.2.2.1 v.1).bind λx27=>((Lb x27.1).bind λx28=>bif Nat.ble 1 1&&Nat.ble (List.length v.2.2+x28.length) lim then (Bz x27.2.1).bind λx29=>bif Nat.ble 1 1&&Nat.ble (List.length (List.append v.2.2 x28)+x29.length) lim then let x30:Y2:=List.append (List.append v.2.2 x28) x29;(Ka x27.2.2.1).bind λx31=>((DZ x31).bind λx32=>bif Nat.ble 1 1&&Nat.ble (List.length x30+x32.length) lim then (Kc x27.2.2.2.1).bind λx33=>bif Nat.ble 1 1&&Nat.ble (List.length (List.append x30 x32)+x33.length) lim then let x34:Y2:=List.append (List.append x30 x32) x33;(Bz (x27.2.2.2.2.1.length:Int)).bind λx35=>bif Nat.ble 1 1&&Nat.ble (List.length x34+x35.length) lim then sP (v.1,(0:Int),v.2.1,(List.append x34 x35),x27) else none else none else none) else none else none) else some v.2.2
def JC (N:Nat) (BM:Wp->Option Y2) (BQ:Wp->Option Y2) (Bp:Wp->Option Y2) (v:Wp):Option Y2:=Py (BP (JD N BM BQ Bp) N) BM BQ Bp v
theorem QNf (N:Nat) (s0:St->Option Y2) (s1:St->Option Y2) (s2) (v):(Bc fZ gK 6 N f25 [Sd] [true] [] 2 BN) s2 (aX v)=JC N (λv=>s0 (Ri v)) (λv=>s1 (Vp v)) (λv=>s2 (aX v)) v:=Eq.trans (b:=Py (λv=>Bd (Bc fZ gK 6 N f25 [Sd] [true] [] 3 (CS s2 BN)) N (ou v)) (λv=>s0 (Ri v)) (λv=>s1 (Vp v)) (λv=>s2 (aX v)) v) (by kernel_rfl) (by rw [funext (BR ou (QNg N s0 s1 s2) N)];rfl)
def Px (QB:Wp->Option Y2) (BM:Wp->Option Y2) (BQ:Wp->Option Y2) (v:Wp):Option Y2:=
 bif decide (v.1 < (v.2.1.2.1.length:Int)) then (BX v.2.1.2.1 v.1).bind λx23=>((Lb x23).bind λx24=>bif Nat.ble 1 1&&Nat.ble (List.length v.2.2+x24.length) lim then let x25:Int:=IntKind.i64.wrap (v.1+1);BQ (x25,v.2.1,(List.append v.2.2 x24)) else none) else (Bz (v.2.1.2.2.1.length:Int)).bind λjT=>bif Nat.ble 1 1&&Nat.ble (List.length v.2.2+jT.length) lim then QB ((0:Int),v.2.1,(List.append v.2.2 jT)) else none
def JB (N:Nat) (BM:Wp->Option Y2) (BQ:Wp->Option Y2) (v:Wp):Option Y2:=Px (BP (JC N BM BQ) N) BM BQ v
theorem QNe (N:Nat) (s0:St->Option Y2) (s1) (v):(Bc fZ gK 6 N f25 [Sd] [true] [] 1 BN) s1 (Vp v)=JB N (λv=>s0 (Ri v)) (λv=>s1 (Vp v)) v:=Eq.trans (b:=Px (λv=>Bd (Bc fZ gK 6 N f25 [Sd] [true] [] 2 BN) N (aX v)) (λv=>s0 (Ri v)) (λv=>s1 (Vp v)) v) (by kernel_rfl) (by rw [funext (BR aX (QNf N s0 s1) N)];rfl)
def Pw (Ca:Wp->Option Y2) (BM:Wp->Option Y2) (v:Wp):Option Y2:=
 bif decide (v.1 < (v.2.1.1.length:Int)) then (BX v.2.1.1 v.1).bind λx2=>bif Nat.ble 1 1&&Nat.ble (List.length v.2.2+List.length ([x2.1]:Y2)) lim then let x3:Y2:=List.append v.2.2 ([x2.1]:Y2);bif x2.1==4 then bif x2.1==4 then (Bz x2.2.1).bind λx4=>bif Nat.ble 1 1&&Nat.ble (List.length x3+x4.length) lim then let x5:Int:=IntKind.i64.wrap (v.1+1);BM (x5,v.2.1,(List.append x3 x4)) else none else bif x2.1==6 then (Bz x2.2.1).bind λx6=>bif Nat.ble 1 1&&Nat.ble (List.length x3+x6.length) lim then (Bz x2.2.2.1).bind λx7=>bif Nat.ble 1 1&&Nat.ble (List.length (List.append x3 x6)+x7.length) lim then let x8:Y2:=List.append (List.append x3 x6) x7;let x9:Int:=IntKind.i64.wrap (v.1+1);BM (x9,v.2.1,x8) else none else none else bif x2.1==5 then (Kc x2.2.2.2.1).bind λFJ=>bif Nat.ble 1 1&&Nat.ble (List.length x3+FJ.length) lim then let FQ:Int:=IntKind.i64.wrap (v.1+1);BM (FQ,v.2.1,(List.append x3 FJ)) else none else let Kw:Int:=IntKind.i64.wrap (v.1+1);BM (Kw,v.2.1,x3) else bif x2.1==7 then (Bz x2.2.1).bind λNC=>bif Nat.ble 1 1&&Nat.ble (List.length x3+NC.length) lim then let Ih:Int:=IntKind.i64.wrap (v.1+1);BM (Ih,v.2.1,(List.append x3 NC)) else none else bif x2.1==6 then (Bz x2.2.1).bind λH7=>bif Nat.ble 1 1&&Nat.ble (List.length x3+H7.length) lim then (Bz x2.2.2.1).bind λQn=>bif Nat.ble 1 1&&Nat.ble (List.length (List.append x3 H7)+Qn.length) lim then let Sg:Y2:=List.append (List.append x3 H7) Qn;let VR:Int:=IntKind.i64.wrap (v.1+1);BM (VR,v.2.1,Sg) else none else none else bif x2.1==5 then (Kc x2.2.2.2.1).bind λVL=>bif Nat.ble 1 1&&Nat.ble (List.length x3+VL.length) lim then let VT:Int:=IntKind.i64.wrap (v.1+1);BM (VT,v.2.1,(List.append x3 VL)) else none else let x21:Int:=IntKind.i64.wrap (v.1+1);BM (x21,v.2.1,x3) else none else (Bz (v.2.1.2.1.length:Int)).bind λXd=>bif Nat.ble 1 1&&Nat.ble (List.length v.2.2+Xd.length) lim then Ca ((0:Int),v.2.1,(List.append v.2.2 Xd)) else none
def GY (N:Nat) (BM:Wp->Option Y2) (v:Wp):Option Y2:=Pw (BP (JB N BM) N) BM v
theorem QNd (N:Nat) (s0) (v):(Bc fZ gK 6 N f25 [Sd] [true] [] 0 BN) s0 (Ri v)=GY N (λv=>s0 (Ri v)) v:=Eq.trans (b:=Pw (λv=>Bd (Bc fZ gK 6 N f25 [Sd] [true] [] 1 BN) N (Vp v)) (λv=>s0 (Ri v)) v) (by kernel_rfl) (by rw [funext (BR Vp (QNe N s0) N)];rfl)
def QY (BZ:Wp->Option Y2) (x:Y1):Option Y2:=
 (Bz (x.1.length:Int)).bind λx1=>BZ ((0:Int),x,x1)
def Xz (x:Y1):Option Y2:=QY (BP (GY big) big) x
def QPo:Cb:=⟨[Z1],[Sd],[true],λx=>Xz x⟩
theorem QX2:Bb prog 25 QPo:=DV fZ gK (λN x=>QY (BP (GY N) N) x) (eO (BO QQP (BO QWy (BO QQR (BO QB0 (BO QQS (BO QX0 (BO QX1 BS)))))))) func25 λN x=>Eq.trans (b:=QY (λv=>Bd (Bc fZ gK 6 N f25 [Sd] [true] [] 0 BN) N (Ri v)) x) (by kernel_rfl) (by rw [funext (BR Ri (QNd N) N)] <;> rfl)
def QY8:LT:=lT []
noncomputable def QVO:=eN tab [(25,QPo),(84,QPj)]
def YL (x:Y1):Option Int:=
 (ZR x).bind λx1=>bif !x1 then some (8:Int) else (Xz x).bind λx2=>bif decide ((x2.length:Int) > 20000) then some (4:Int) else some (0:Int)
def Mi (x:Y1):Option Int:=YL x
def QEs:Cb:=⟨[Z1],[Z2],[false],λx=>Mi x⟩
theorem QJT:Bb prog 43 QEs:=DV QVO QY8 (λ_=>Mi) (eO (BO QX2 (BO QWx BS))) func43
def QK5:LT:=lT [(4,[0,3])]
noncomputable def QIZ:=eN tab [(128,QJ3)]
noncomputable def oz (v:Y3×Int):St:=⟨[sV 0 LX v.1,sV 3 Z2 v.2],[],[],4096⟩
def JO (BM:Y3×Int->Option Int) (v:Y3×Int):Option Int:=
 bif decide (v.2 < (v.1.length:Int)) then (BX v.1 v.2).bind λx1=>((PG x1).bind λx2=>bif x2 != 0 then some (8:Int) else bif x1.1==22 then bif decide (x1.2.1>=(v.1.length:Int)) then some (8:Int) else bif x1.1==23 then bif decide (x1.2.2.1>=(v.1.length:Int)) then some (8:Int) else let x3:Int:=IntKind.i64.wrap (v.2+1);BM (v.1,x3) else let x4:Int:=IntKind.i64.wrap (v.2+1);BM (v.1,x4) else bif x1.1==23 then bif decide (x1.2.2.1>=(v.1.length:Int)) then some (8:Int) else let x5:Int:=IntKind.i64.wrap (v.2+1);BM (v.1,x5) else let x6:Int:=IntKind.i64.wrap (v.2+1);BM (v.1,x6)) else let x7:Int:=IntKind.i64.wrap ((v.1.length:Int) - 1);((BX v.1 x7).bind λx8=>let x9:Sj:=((34:Int),((-1:Int),((0:Int),((0:Int),()))));bif !(R3 Z3 x8 x9) then some (8:Int) else some (0:Int))
def Lm (N:Nat) (BM:Y3×Int->Option Int) (v:Y3×Int):Option Int:=JO BM v
theorem QNh (N:Nat) (s0) (v):(Bc QIZ QK5 6 N f93 [Z2] [false] [] 0 BN) s0 (oz v)=Lm N (λv=>s0 (oz v)) v:=by kernel_rfl
def QW (BZ:Y3×Int->Option Int) (x:Y3):Option Int:=
 bif decide ((x.length:Int) < 1) then some (8:Int) else bif decide ((x.length:Int) > 200) then some (8:Int) else BZ (x,(0:Int))
def Xy (x:Y3):Option Int:=QW (BP (Lm big) big) x
def QPp:Cb:=⟨[LX],[Z2],[false],λx=>Xy x⟩
theorem QX3:Bb prog 93 QPp:=DV QIZ QK5 (λN x=>QW (BP (Lm N) N) x) (eO (BO QQO BS)) func93 λN x=>Eq.trans (b:=QW (λv=>Bd (Bc QIZ QK5 6 N f93 [Z2] [false] [] 0 BN) N (oz v)) x) (by kernel_rfl) (by rw [funext (BR oz (QNh N) N)] <;> rfl)
def QY9:LT:=lT []
noncomputable def QVP:=eN tab []
def Wh (x:Y3×Int):Option Y2:=
 (BX x.1 x.2).bind λx1=>bif x1.1==34 then bif x1.1==34 then some ([]:List Int) else bif x1.1==22 then some ([x1.2.1]:Y2) else bif x1.1==23 then let x2:Int:=IntKind.i64.wrap (x.2+1);bif x1.2.2.1==x2 then let x3:Int:=IntKind.i64.wrap (x.2+1);some ([x3]:Y2) else let x4:Int:=IntKind.i64.wrap (x.2+1);let x5:Int:=if x1.2.2.1 < x4 then x1.2.2.1 else x4;let x6:Int:=IntKind.i64.wrap (x.2+1);let x7:Int:=if x1.2.2.1 > x6 then x1.2.2.1 else x6;some ([x5,x7]:Y2) else let x8:Int:=IntKind.i64.wrap (x.2+1);some ([x8]:Y2) else bif x1.1==28 then bif x1.1==28 then some ([]:List Int) else bif x1.1==22 then some ([x1.2.1]:Y2) else bif x1.1==23 then let x9:Int:=IntKind.i64.wrap (x.2+1);bif x1.2.2.1==x9 then let FJ:Int:=IntKind.i64.wrap (x.2+1);some ([FJ]:Y2) else let FQ:Int:=IntKind.i64.wrap (x.2+1);let Kw:Int:=if x1.2.2.1 < FQ then x1.2.2.1 else FQ;let NC:Int:=IntKind.i64.wrap (x.2+1);let Ih:Int:=if x1.2.2.1 > NC then x1.2.2.1 else NC;let H7:Y2:=([Kw,Ih]:Y2);some H7 else let Qn:Int:=IntKind.i64.wrap (x.2+1);some ([Qn]:Y2) else bif x1.1==30 then some ([]:List Int) else bif x1.1==22 then some ([x1.2.1]:Y2) else bif x1.1==23 then let Sg:Int:=IntKind.i64.wrap (x.2+1);bif x1.2.2.1==Sg then let VR:Int:=IntKind.i64.wrap (x.2+1);some ([VR]:Y2) else let VL:Int:=IntKind.i64.wrap (x.2+1);let VT:Int:=if x1.2.2.1 < VL then x1.2.2.1 else VL;let x21:Int:=IntKind.i64.wrap (x.2+1);let Xd:Int:=if x1.2.2.1 > x21 then x1.2.2.1 else x21;let x23:Y2:=([VT,Xd]:Y2);some x23 else let x24:Int:=IntKind.i64.wrap (x.2+1);some ([x24]:Y2)
def IE (x:Y3×Int):Option Y2:=Wh x
def QEt:Cb:=⟨[LX,Z2],[Z5],[true],λx=>IE x⟩
theorem QJU:Bb prog 129 QEt:=DV QVP QY9 (λ_=>IE) (eO BS) func129
def qR:LT:=lT [(4,[0,3,4]),(7,[0,3,4,5]),(11,[0,3,4,5,6,7])]
noncomputable def lX (mk:(α:Type)->Nat->α->List α):CO:={ tab:=tab,fs:=[(129,QEt)],inl:=[],rep:=mk }
noncomputable def o7 (v:Y44):St:=⟨[sV 0 LX v.1,(3,.row 0),sV 4 .bool v.2.1,sV 5 Z2 v.2.2.1,(6,.row 1),sV 7 Z2 v.2.2.2.1],[(0,.row .bool v.2.2.2.2.1),(1,.row Z2 v.2.2.2.2.2)],[],4096⟩
noncomputable def aY (v:Y78):St:=⟨[sV 0 LX v.1,(3,.row 0),sV 4 .bool v.2.1,sV 5 Z2 v.2.2.1],[(0,.row .bool v.2.2.2)],[],4096⟩
noncomputable def Vq (v:Y91):St:=⟨[sV 0 LX v.1,(3,.row 0),sV 4 .bool v.2.1],[(0,.row .bool v.2.2)],[],4096⟩
def Pv (mk:(α:Type)->Nat->α->List α) (BM:Y91->Option Y7) (BQ:Y78->Option Y7) (Bp:Y44->Option Y7) (v:Y44):Option Y7:=
 bif decide (v.2.2.2.1 < (v.2.2.2.2.2.length:Int)) then bif decide (0<=v.2.2.1)&&decide (v.2.2.1 < (v.2.2.2.2.1.length:Int)) then (nth v.2.2.2.2.1 (Int.toNat v.2.2.1)).bind λx4=>bif x4 then bif decide (0<=v.2.2.2.1)&&decide (v.2.2.2.1 < (v.2.2.2.2.2.length:Int)) then (nth v.2.2.2.2.2 (Int.toNat v.2.2.2.1)).bind λx5=>bif decide (0<=x5)&&decide (x5 < (v.2.2.2.2.1.length:Int)) then (nth v.2.2.2.2.1 (Int.toNat x5)).bind λx6=>bif !x6 then bif decide (0<=v.2.2.2.1)&&decide (v.2.2.2.1 < (v.2.2.2.2.2.length:Int)) then (nth v.2.2.2.2.2 (Int.toNat v.2.2.2.1)).bind λx7=>bif decide (0<=x7)&&decide (x7 < (v.2.2.2.2.1.length:Int)) then let x8:Y7:=List.set v.2.2.2.2.1 (Int.toNat x7) true;let x9:Int:=IntKind.i64.wrap (v.2.2.2.1+1);Bp (v.1,true,v.2.2.1,x9,x8,v.2.2.2.2.2) else none else none else let FJ:Int:=IntKind.i64.wrap (v.2.2.2.1+1);Bp (v.1,v.2.1,v.2.2.1,FJ,v.2.2.2.2.1,v.2.2.2.2.2) else none else none else let FQ:Int:=IntKind.i64.wrap (v.2.2.1+1);BQ (v.1,v.2.1,FQ,v.2.2.2.2.1) else none else let Kw:Int:=IntKind.i64.wrap (v.2.2.1+1);BQ (v.1,v.2.1,Kw,v.2.2.2.2.1)
def Ph (mk:(α:Type)->Nat->α->List α) (N:Nat) (BM:Y91->Option Y7) (BQ:Y78->Option Y7) (Bp:Y44->Option Y7) (v:Y44):Option Y7:=Pv mk BM BQ Bp v
theorem QNk (mk:(α:Type)->Nat->α->List α) (N:Nat) (s0) (s1) (s2) (v):(Bc (lX mk) qR 6 N f94 [yP] [true] [] 2 (CS s0 (CS s1 BN))) s2 (o7 v)=Ph mk N (λv=>s0 (Vq v)) (λv=>s1 (aY v)) (λv=>s2 (o7 v)) v:=by kernel_rfl
def M4 (mk:(α:Type)->Nat->α->List α) (QB:Y44->Option Y7) (BM:Y91->Option Y7) (BQ:Y78->Option Y7) (v:Y78):Option Y7:=
 bif decide (v.2.2.1 < (v.1.length:Int)) then (IE (v.1,v.2.2.1)).bind λx3=>QB (v.1,v.2.1,v.2.2.1,(0:Int),v.2.2.2,x3) else BM (v.1,v.2.1,v.2.2.2)
def Tq (mk:(α:Type)->Nat->α->List α) (N:Nat) (BM:Y91->Option Y7) (BQ:Y78->Option Y7) (v:Y78):Option Y7:=M4 mk (BP (Ph mk N BM BQ) N) BM BQ v
theorem QNj (mk:(α:Type)->Nat->α->List α) (N:Nat) (s0) (s1) (v):(Bc (lX mk) qR 6 N f94 [yP] [true] [] 1 (CS s0 BN)) s1 (aY v)=Tq mk N (λv=>s0 (Vq v)) (λv=>s1 (aY v)) v:=Eq.trans (b:=M4 mk (λv=>Bd (Bc (lX mk) qR 6 N f94 [yP] [true] [] 2 (CS s0 (CS s1 BN))) N (o7 v)) (λv=>s0 (Vq v)) (λv=>s1 (aY v)) v) (by kernel_rfl) (by rw [funext (BR o7 (QNk mk N s0 s1) N)];rfl)
def Tt (mk:(α:Type)->Nat->α->List α) (Ca:Y78->Option Y7) (BM:Y91->Option Y7) (v:Y91):Option Y7:=
 bif v.2.1 then Ca (v.1,false,(0:Int),v.2.2) else some v.2.2
def Tp (mk:(α:Type)->Nat->α->List α) (N:Nat) (BM:Y91->Option Y7) (v:Y91):Option Y7:=Tt mk (BP (Tq mk N BM) N) BM v
theorem QNi (mk:(α:Type)->Nat->α->List α) (N:Nat) (s0) (v):(Bc (lX mk) qR 6 N f94 [yP] [true] [] 0 BN) s0 (Vq v)=Tp mk N (λv=>s0 (Vq v)) v:=Eq.trans (b:=Tt mk (λv=>Bd (Bc (lX mk) qR 6 N f94 [yP] [true] [] 1 (CS s0 BN)) N (aY v)) (λv=>s0 (Vq v)) v) (by kernel_rfl) (by rw [funext (BR aY (QNj mk N s0) N)];rfl)
def YK (mk:(α:Type)->Nat->α->List α) (BZ:Y91->Option Y7) (x:Y3):Option Y7:=
 bif decide (0<=(x.length:Int))&&(decide ((x.length:Int)<=(x.length:Int))&&(decide ((x.length:Int)<=68719476736)&&true)) then let x1:Y7:=mk Bool (Int.toNat (x.length:Int)) false;bif decide (0<=(0:Int))&&decide ((0:Int) < (x1.length:Int)) then let x2:Y7:=List.set x1 (Int.toNat (0:Int)) true;BZ (x,true,x2) else none else none
def fA (mk:(α:Type)->Nat->α->List α) (N:Nat) (x:Y3):Option Y7:=YK mk (BP (Tp mk N) N) x
theorem QZg (mk:(α:Type)->Nat->α->List α) (N:Nat) (x:Y3):rise (lX mk) qR 6 N f94 [LX] [yP] [true] x=fA mk N x:=Eq.trans (b:=YK mk (λv=>Bd (Bc (lX mk) qR 6 N f94 [yP] [true] [] 0 BN) N (Vq v)) x) (by kernel_rfl) (by rw [funext (BR Vq (QNi mk N) N)];rfl)
def Ua (x:Y3):Option Y7:=fA (λ_=>List.replicate) big x
def QJ7:Cb:=⟨[LX],[yP],[true],λx=>Ua x⟩
theorem QQT:Bb prog 94 QJ7:=rzl (E:=lX (λ_=>List.replicate)) (fA (λ_=>List.replicate)) (eO (BO QJU BS)) func94 (QZg (λ_=>List.replicate))
def QK6:LT:=lT [(4,[4,5,6,7,8])]
noncomputable def QIa:=eN tab [(91,QEq),(92,QEr)]
noncomputable def o8 (v:Y75):St:=⟨[(4,.row 0),(5,.row 1),sV 6 .str v.1,(7,.loc 2 []),sV 8 Z2 v.2.1],[(0,.row Z2 v.2.2.1),(1,.row Z2 v.2.2.2.1),(2,.var Z19 (.val ⟨Z19,v.2.2.2.2⟩))],[],4096⟩
def Q8 (BM:Y75->Option (Y2×Y2)) (v:Y75):Option (Y2×Y2):=
 bif decide (v.2.1 < 3) then (BX v.1 v.2.1).bind λx3=>bif x3==114 then bif decide (0<=v.2.1)&&decide (v.2.1 < 3) then (nth v.2.2.2.2 (Int.toNat v.2.1)).bind λx4=>bif decide (x4>=0) then bif decide (0<=v.2.1)&&decide (v.2.1 < 3) then (nth v.2.2.2.2 (Int.toNat v.2.1)).bind λx5=>bif Nat.ble 1 1&&Nat.ble (List.length v.2.2.1+List.length ([x5]:Y2)) lim then let x6:Y2:=List.append v.2.2.1 ([x5]:Y2);((BX v.1 v.2.1).bind λx7=>bif x7==119 then bif decide (0<=v.2.1)&&decide (v.2.1 < 3) then (nth v.2.2.2.2 (Int.toNat v.2.1)).bind λx8=>bif decide (x8>=0) then bif decide (0<=v.2.1)&&decide (v.2.1 < 3) then (nth v.2.2.2.2 (Int.toNat v.2.1)).bind λx9=>bif Nat.ble 1 1&&Nat.ble (List.length v.2.2.2.1+List.length ([x9]:Y2)) lim then let FJ:Y2:=List.append v.2.2.2.1 ([x9]:Y2);let FQ:Int:=IntKind.i64.wrap (v.2.1+1);BM (v.1,FQ,x6,FJ,v.2.2.2.2) else none else none else let Kw:Int:=IntKind.i64.wrap (v.2.1+1);BM (v.1,Kw,x6,v.2.2.2.1,v.2.2.2.2) else none else (BX v.1 v.2.1).bind λNC=>bif NC==103 then bif decide (0<=v.2.1)&&decide (v.2.1 < 3) then (nth v.2.2.2.2 (Int.toNat v.2.1)).bind λIh=>bif decide (Ih>=0) then bif decide (0<=v.2.1)&&decide (v.2.1 < 3) then (nth v.2.2.2.2 (Int.toNat v.2.1)).bind λH7=>bif Nat.ble 1 1&&Nat.ble (List.length v.2.2.2.1+List.length ([H7]:Y2)) lim then let Qn:Y2:=List.append v.2.2.2.1 ([H7]:Y2);let Sg:Int:=IntKind.i64.wrap (v.2.1+1);BM (v.1,Sg,x6,Qn,v.2.2.2.2) else none else none else let VR:Int:=IntKind.i64.wrap (v.2.1+1);BM (v.1,VR,x6,v.2.2.2.1,v.2.2.2.2) else none else let VL:Int:=IntKind.i64.wrap (v.2.1+1);BM (v.1,VL,x6,v.2.2.2.1,v.2.2.2.2)) else none else none else (BX v.1 v.2.1).bind λVT=>bif VT==119 then bif decide (0<=v.2.1)&&decide (v.2.1 < 3) then (nth v.2.2.2.2 (Int.toNat v.2.1)).bind λx21=>bif decide (x21>=0) then bif decide (0<=v.2.1)&&decide (v.2.1 < 3) then (nth v.2.2.2.2 (Int.toNat v.2.1)).bind λXd=>bif Nat.ble 1 1&&Nat.ble (List.length v.2.2.2.1+List.length ([Xd]:Y2)) lim then let x23:Y2:=List.append v.2.2.2.1 ([Xd]:Y2);let x24:Int:=IntKind.i64.wrap (v.2.1+1);BM (v.1,x24,v.2.2.1,x23,v.2.2.2.2) else none else none else let x25:Int:=IntKind.i64.wrap (v.2.1+1);BM (v.1,x25,v.2.2.1,v.2.2.2.1,v.2.2.2.2) else none else (BX v.1 v.2.1).bind λjT=>bif jT==103 then bif decide (0<=v.2.1)&&decide (v.2.1 < 3) then (nth v.2.2.2.2 (Int.toNat v.2.1)).bind λx27=>bif decide (x27>=0) then bif decide (0<=v.2.1)&&decide (v.2.1 < 3) then (nth v.2.2.2.2 (Int.toNat v.2.1)).bind λx28=>bif Nat.ble 1 1&&Nat.ble (List.length v.2.2.2.1+List.length ([x28]:Y2)) lim then let x29:Y2:=List.append v.2.2.2.1 ([x28]:Y2);let x30:Int:=IntKind.i64.wrap (v.2.1+1);BM (v.1,x30,v.2.2.1,x29,v.2.2.2.2) else none else none else let x31:Int:=IntKind.i64.wrap (v.2.1+1);BM (v.1,x31,v.2.2.1,v.2.2.2.1,v.2.2.2.2) else none else let x32:Int:=IntKind.i64.wrap (v.2.1+1);BM (v.1,x32,v.2.2.1,v.2.2.2.1,v.2.2.2.2) else none else (BX v.1 v.2.1).bind λx33=>bif x33==101 then bif decide (0<=v.2.1)&&decide (v.2.1 < 3) then (nth v.2.2.2.2 (Int.toNat v.2.1)).bind λx34=>bif decide (x34>=0) then bif decide (0<=v.2.1)&&decide (v.2.1 < 3) then (nth v.2.2.2.2 (Int.toNat v.2.1)).bind λx35=>bif Nat.ble 1 1&&Nat.ble (List.length v.2.2.1+List.length ([x35]:Y2)) lim then let x36:Y2:=List.append v.2.2.1 ([x35]:Y2);((BX v.1 v.2.1).bind λx37=>bif x37==119 then bif decide (0<=v.2.1)&&decide (v.2.1 < 3) then (nth v.2.2.2.2 (Int.toNat v.2.1)).bind λx38=>bif decide (x38>=0) then bif decide (0<=v.2.1)&&decide (v.2.1 < 3) then (nth v.2.2.2.2 (Int.toNat v.2.1)).bind λx39=>bif Nat.ble 1 1&&Nat.ble (List.length v.2.2.2.1+List.length ([x39]:Y2)) lim then let x40:Y2:=List.append v.2.2.2.1 ([x39]:Y2);let x41:Int:=IntKind.i64.wrap (v.2.1+1);BM (v.1,x41,x36,x40,v.2.2.2.2) else none else none else let x42:Int:=IntKind.i64.wrap (v.2.1+1);BM (v.1,x42,x36,v.2.2.2.1,v.2.2.2.2) else none else (BX v.1 v.2.1).bind λx43=>bif x43==103 then bif decide (0<=v.2.1)&&decide (v.2.1 < 3) then (nth v.2.2.2.2 (Int.toNat v.2.1)).bind λx44=>bif decide (x44>=0) then bif decide (0<=v.2.1)&&decide (v.2.1 < 3) then (nth v.2.2.2.2 (Int.toNat v.2.1)).bind λx45=>bif Nat.ble 1 1&&Nat.ble (List.length v.2.2.2.1+List.length ([x45]:Y2)) lim then let x46:Y2:=List.append v.2.2.2.1 ([x45]:Y2);let x47:Int:=IntKind.i64.wrap (v.2.1+1);BM (v.1,x47,x36,x46,v.2.2.2.2) else none else none else let x48:Int:=IntKind.i64.wrap (v.2.1+1);BM (v.1,x48,x36,v.2.2.2.1,v.2.2.2.2) else none else let x49:Int:=IntKind.i64.wrap (v.2.1+1);BM (v.1,x49,x36,v.2.2.2.1,v.2.2.2.2)) else none else none else (BX v.1 v.2.1).bind λx50=>bif x50==119 then bif decide (0<=v.2.1)&&decide (v.2.1 < 3) then (nth v.2.2.2.2 (Int.toNat v.2.1)).bind λx51=>bif decide (x51>=0) then bif decide (0<=v.2.1)&&decide (v.2.1 < 3) then (nth v.2.2.2.2 (Int.toNat v.2.1)).bind λx52=>bif Nat.ble 1 1&&Nat.ble (List.length v.2.2.2.1+List.length ([x52]:Y2)) lim then let x53:Y2:=List.append v.2.2.2.1 ([x52]:Y2);let x54:Int:=IntKind.i64.wrap (v.2.1+1);BM (v.1,x54,v.2.2.1,x53,v.2.2.2.2) else none else none else let x55:Int:=IntKind.i64.wrap (v.2.1+1);BM (v.1,x55,v.2.2.1,v.2.2.2.1,v.2.2.2.2) else none else (BX v.1 v.2.1).bind λx56=>bif x56==103 then bif decide (0<=v.2.1)&&decide (v.2.1 < 3) then (nth v.2.2.2.2 (Int.toNat v.2.1)).bind λx57=>bif decide (x57>=0) then bif decide (0<=v.2.1)&&decide (v.2.1 < 3) then (nth v.2.2.2.2 (Int.toNat v.2.1)).bind λx58=>bif Nat.ble 1 1&&Nat.ble (List.length v.2.2.2.1+List.length ([x58]:Y2)) lim then let x59:Y2:=List.append v.2.2.2.1 ([x58]:Y2);let x60:Int:=IntKind.i64.wrap (v.2.1+1);BM (v.1,x60,v.2.2.1,x59,v.2.2.2.2) else none else none else let x61:Int:=IntKind.i64.wrap (v.2.1+1);BM (v.1,x61,v.2.2.1,v.2.2.2.1,v.2.2.2.2) else none else let x62:Int:=IntKind.i64.wrap (v.2.1+1);BM (v.1,x62,v.2.2.1,v.2.2.2.1,v.2.2.2.2) else none else (BX v.1 v.2.1).bind λx63=>bif x63==119 then bif decide (0<=v.2.1)&&decide (v.2.1 < 3) then (nth v.2.2.2.2 (Int.toNat v.2.1)).bind λx64=>bif decide (x64>=0) then bif decide (0<=v.2.1)&&decide (v.2.1 < 3) then (nth v.2.2.2.2 (Int.toNat v.2.1)).bind λx65=>bif Nat.ble 1 1&&Nat.ble (List.length v.2.2.2.1+List.length ([x65]:Y2)) lim then let x66:Y2:=List.append v.2.2.2.1 ([x65]:Y2);let x67:Int:=IntKind.i64.wrap (v.2.1+1);BM (v.1,x67,v.2.2.1,x66,v.2.2.2.2) else none else none else let x68:Int:=IntKind.i64.wrap (v.2.1+1);BM (v.1,x68,v.2.2.1,v.2.2.2.1,v.2.2.2.2) else none else (BX v.1 v.2.1).bind λx69=>bif x69==103 then bif decide (0<=v.2.1)&&decide (v.2.1 < 3) then (nth v.2.2.2.2 (Int.toNat v.2.1)).bind λx70=>bif decide (x70>=0) then bif decide (0<=v.2.1)&&decide (v.2.1 < 3) then (nth v.2.2.2.2 (Int.toNat v.2.1)).bind λx71=>bif Nat.ble 1 1&&Nat.ble (List.length v.2.2.2.1+List.length ([x71]:Y2)) lim then let x72:Y2:=List.append v.2.2.2.1 ([x71]:Y2);let x73:Int:=IntKind.i64.wrap (v.2.1+1);BM (v.1,x73,v.2.2.1,x72,v.2.2.2.2) else none else none else let x74:Int:=IntKind.i64.wrap (v.2.1+1);BM (v.1,x74,v.2.2.1,v.2.2.2.1,v.2.2.2.2) else none else let x75:Int:=IntKind.i64.wrap (v.2.1+1);BM (v.1,x75,v.2.2.1,v.2.2.2.1,v.2.2.2.2) else some (v.2.2.1,v.2.2.2.1)
def GJ (N:Nat) (BM:Y75->Option (Y2×Y2)) (v:Y75):Option (Y2×Y2):=Q8 BM v
theorem QNl (N:Nat) (s0) (v):(Bc QIa QK6 6 N f47 [Z5,Z5] [true,false] [] 0 BN) s0 (o8 v)=GJ N (λv=>s0 (o8 v)) v:=by kernel_rfl
def MQ (BZ:Y75->Option (Y2×Y2)) (x:Sj):Option (Y2×Y2):=
 (Jr x.1).bind λx1=>(D7 x).bind λx2=>BZ (x1,(0:Int),([]:List Int),([]:List Int),x2)
def I4 (x:Sj):Option (Y2×Y2):=MQ (BP (GJ big) big) x
def QAx:Cb:=⟨[Z3],[Z5,Z5],[true,false],λx=>I4 x⟩
theorem QF0:Bb prog 47 QAx:=DV QIa QK6 (λN x=>MQ (BP (GJ N) N) x) (eO (BO QJR (BO QJS BS))) func47 λN x=>Eq.trans (b:=MQ (λv=>Bd (Bc QIa QK6 6 N f47 [Z5,Z5] [true,false] [] 0 BN) N (o8 v)) x) (by kernel_rfl) (by rw [funext (BR o8 (QNl N) N)] <;> rfl)
def QYA:LT:=lT []
noncomputable def QVQ:=eN tab []
def Wj (x:Sj):Option Int:=
 bif x.1==25 then some x.2.2.1 else bif x.1==26 then bif x.1==26 then some x.2.1 else some (-1:Int) else bif x.1==27 then some x.2.1 else some (-1:Int)
def Nc (x:Sj):Option Int:=Wj x
def QJ8:Cb:=⟨[Z3],[Z2],[false],λx=>Nc x⟩
theorem QQU:Bb prog 85 QJ8:=DV QVQ QYA (λ_=>Nc) (eO BS) func85
def QK7:LT:=lT [(4,[1,3,5,9,10])]
noncomputable def QIb:=eN tab [(47,QAx),(85,QJ8)]
noncomputable def o9 (v:Y64):St:=⟨[sV 1 Z2 v.1,(3,.loc 0 []),(5,.loc 1 []),(9,.row 2),sV 10 Z2 v.2.1],[(0,.var Z1 (.val ⟨Z1,v.2.2.1⟩)),(1,.var Z3 (.val ⟨Z3,v.2.2.2.1⟩)),(2,.row Z2 v.2.2.2.2)],[],4096⟩
def WQ (BM:Y64->Option Bool) (v:Y64):Option Bool:=
 bif decide (v.2.1 < (v.2.2.2.2.length:Int)) then bif decide (0<=v.2.1)&&decide (v.2.1 < (v.2.2.2.2.length:Int)) then (nth v.2.2.2.2 (Int.toNat v.2.1)).bind λx3=>((BX v.2.2.1.2.2.1 v.1).bind λx4=>bif decide (x3>=(x4.2.2.2.1.length:Int)) then some false else let x5:Int:=IntKind.i64.wrap (v.2.1+1);BM (v.1,x5,v.2.2.1,v.2.2.2.1,v.2.2.2.2)) else none else (Nc v.2.2.2.1).bind λx6=>bif decide (x6 < (v.2.2.1.2.2.1.length:Int)) then bif v.2.2.2.1.1 != 2 then some true else some (decide (v.2.2.2.1.2.2.1 < (v.2.2.1.2.1.length:Int))) else some false
def GA (N:Nat) (BM:Y64->Option Bool) (v:Y64):Option Bool:=WQ BM v
theorem QNm (N:Nat) (s0) (v):(Bc QIb QK7 6 N f45 [.bool] [false] [] 0 BN) s0 (o9 v)=GA N (λv=>s0 (o9 v)) v:=by kernel_rfl
def SQ (BZ:Y64->Option Bool) (x:Y1×Int×Sj):Option Bool:=
 (I4 x.2.2).bind λx1=>bif Nat.ble 1 1&&Nat.ble (List.length ([]:Y2)+x1.1.length) lim then let x2:Y2:=List.append ([]:Y2) x1.1;bif Nat.ble 1 1&&Nat.ble (List.length x2+x1.2.length) lim then BZ (x.2.1,(0:Int),x.1,x.2.2,(List.append x2 x1.2)) else none else none
def Vk (x:Y1×Int×Sj):Option Bool:=SQ (BP (GA big) big) x
def QJ9:Cb:=⟨[Z1,Z2,Z3],[.bool],[false],λx=>Vk x⟩
theorem QQV:Bb prog 45 QJ9:=DV QIb QK7 (λN x=>SQ (BP (GA N) N) x) (eO (BO QF0 (BO QQU BS))) func45 λN x=>Eq.trans (b:=SQ (λv=>Bd (Bc QIb QK7 6 N f45 [.bool] [false] [] 0 BN) N (o9 v)) x) (by kernel_rfl) (by rw [funext (BR o9 (QNm N) N)] <;> rfl)
def QYB:LT:=lT []
noncomputable def QVR:=eN tab []
def SS (x:Y92):Option Int:=
 bif decide (x.2.2 < 0) then some (-1:Int) else (BX x.1.2.2.1 x.2.1).bind λx1=>bif decide (x.2.2>=(x1.2.2.2.1.length:Int)) then some (-1:Int) else (BX x.1.2.2.1 x.2.1).bind λx2=>(BX x2.2.2.2.1 x.2.2).bind λx3=>some x3.2.1
def F9 (x:Y92):Option Int:=SS x
def QEu:Cb:=⟨[Z1,Z2,Z2],[Z2],[false],λx=>F9 x⟩
theorem QJV:Bb prog 48 QEu:=DV QVR QYB (λ_=>F9) (eO BS) func48
def QYC:LT:=lT []
noncomputable def QVS:=eN tab []
def Zj (x:Y1×Int):Option Int:=
 bif decide (x.2 < 0) then some (0:Int) else (BX x.1.1 x.2).bind λx1=>some x1.1
def Jh (x:Y1×Int):Option Int:=Zj x
def QEv:Cb:=⟨[Z1,Z2],[LU],[false],λx=>Jh x⟩
theorem QJW:Bb prog 86 QEv:=DV QVS QYC (λ_=>Jh) (eO BS) func86
def QYD:LT:=lT []
noncomputable def QVT:=eN tab []
def Zi (x:jZ):Option Bool:=
 bif x.1==1 then some true else bif x.1==2 then some true else some (x.1==4)
def Rz (x:jZ):Option Bool:=Zi x
def QJA:Cb:=⟨[Z4],[.bool],[false],λx=>Rz x⟩
theorem QQW:Bb prog 87 QJA:=DV QVT QYD (λ_=>Rz) (eO BS) func87
def QYE:LT:=lT []
noncomputable def QVU:=eN tab [(86,QEv)]
def Wn (x:Y92):Option Int:=
 (Jh (x.1,x.2.1)).bind λx1=>bif x1 != 5 then some (-1:Int) else bif decide (x.2.2 < 0) then some (-1:Int) else (BX x.1.1 x.2.1).bind λx2=>bif decide (x.2.2>=(x2.2.2.2.1.length:Int)) then some (-1:Int) else (BX x.1.1 x.2.1).bind λx3=>(BX x3.2.2.2.1 x.2.2).bind λx4=>some x4.2.1
def Ng (x:Y92):Option Int:=Wn x
def QPq:Cb:=⟨[Z1,Z2,Z2],[Z2],[false],λx=>Ng x⟩
theorem QX5:Bb prog 88 QPq:=DV QVU QYE (λ_=>Ng) (eO (BO QJW BS)) func88
def QYF:LT:=lT []
noncomputable def QVV:=eN tab [(86,QEv)]
def kW (x:Y1×Int×Int×Int):Option Int:=
 (Jh (x.1,x.2.1)).bind λx1=>bif decide (x.2.1 < 0) then some (-1:Int) else bif x1 != x.2.2.1 then bif x1 != x.2.2.2 then some (-1:Int) else (BX x.1.1 x.2.1).bind λx2=>some x2.2.1 else (BX x.1.1 x.2.1).bind λx3=>some x3.2.1
def Qz (x:Y1×Int×Int×Int):Option Int:=kW x
def QPr:Cb:=⟨[Z1,Z2,LU,LU],[Z2],[false],λx=>Qz x⟩
theorem QX6:Bb prog 89 QPr:=DV QVV QYF (λ_=>Qz) (eO (BO QJW BS)) func89
def QYG:LT:=lT []
noncomputable def QVW:=eN tab [(87,QJA)]
def YM (x:Y1×Int):Option Bool:=
 (BX x.1.2.2.1 x.2).bind λx1=>bif x1.2.2.1==(-1:Int) then bif x1.2.1==0 then some true else bif x1.2.1==1 then (BX x1.2.2.2.1 (0:Int)).bind λx2=>(BX x.1.1 x2.2.1).bind λx3=>(Rz x3).bind λx4=>some x4 else some false else some false
def PO (x:Y1×Int):Option Bool:=YM x
def QPs:Cb:=⟨[Z1,Z2],[.bool],[false],λx=>PO x⟩
theorem QX7:Bb prog 90 QPs:=DV QVW QYG (λ_=>PO) (eO (BO QQW BS)) func90
def QYH:LT:={ live:=[],keep:=[],cnd:=[39,48,58,208,227] }
noncomputable def QVX:=eN tab [(48,QEu),(86,QEv),(87,QJA),(88,QPq),(89,QPr),(90,QPs)]
def YN (x:Y1×Int×Sj):Option Bool:=
 (F9 (x.1,x.2.1,x.2.2.2.1)).bind λx1=>(F9 (x.1,x.2.1,x.2.2.2.2.1)).bind λx2=>(F9 (x.1,x.2.1,x.2.2.2.2.2.1)).bind λx3=>(Jh (x.1,x1)).bind λx4=>(Jh (x.1,x2)).bind λx5=>(Jh (x.1,x3)).bind λx6=>bif x.2.2.1==1 then some (x4==2) else bif x.2.2.1==32 then some (x4==2) else bif x.2.2.1==2 then some (x4==3) else bif x.2.2.1==3 then some (x4==1) else bif x.2.2.1==23 then some (x4==1) else bif x.2.2.1==5 then some (x1==x2) else bif x.2.2.1==6 then bif x4==2 then bif x5==2 then some (x6==2) else some false else some false else bif x.2.2.1==7 then bif x4==2 then bif x5==2 then some (x6==2) else some false else some false else bif x.2.2.1==8 then bif x4==2 then bif x5==2 then some (x6==2) else some false else some false else bif x.2.2.1==9 then bif x4==2 then bif x5==2 then some (x6==2) else some false else some false else bif x.2.2.1==10 then bif x4==1 then bif x5==2 then some (x6==2) else some false else some false else bif x.2.2.1==11 then bif x4==1 then bif x2==x3 then (BX x.1.1 x2).bind λx7=>(Rz x7).bind λx8=>some x8 else some false else some false else bif x.2.2.1==12 then bif x4==1 then some (x5==1) else some false else bif x.2.2.1==13 then (Ng (x.1,x2,x.2.2.2.2.2.1)).bind λx9=>some (x9==x1) else bif x.2.2.1==14 then (Ng (x.1,x1,x.2.2.2.2.1)).bind λFJ=>some (FJ==x3) else bif x.2.2.1==15 then some (x4==4) else bif x.2.2.1==16 then (Qz (x.1,x2,(4:Int),(4:Int))).bind λFQ=>some (FQ==x1) else bif x.2.2.1==17 then (Qz (x.1,x1,(4:Int),(4:Int))).bind λKw=>some (Kw==x2) else bif x.2.2.1==18 then bif x4==7 then some (x5==2) else some false else bif x.2.2.1==19 then (Qz (x.1,x2,(7:Int),(6:Int))).bind λNC=>bif NC==x1 then some (x6==2) else some false else bif x.2.2.1==20 then (Qz (x.1,x1,(7:Int),(6:Int))).bind λIh=>bif Ih==x3 then some (x5==2) else some false else bif x.2.2.1==21 then bif x4==2 then bif x5==3 then some true else bif x5==7 then some true else some (x5==6) else some false else bif x.2.2.1==25 then bif x.2.2.2.1==(-1:Int) then some true else (BX x.1.2.2.1 x.2.2.2.2.1).bind λH7=>some (H7.2.2.1==x1) else bif x.2.2.1==26 then (PO (x.1,x.2.2.2.1)).bind λQn=>some Qn else bif x.2.2.1==27 then (PO (x.1,x.2.2.2.1)).bind λSg=>some Sg else bif x.2.2.1==28 then bif x4==2 then some true else bif x4==1 then some true else some (x4==3) else bif x.2.2.1==29 then bif x4==1 then some (x5==2) else some false else bif x.2.2.1==33 then bif x4==1 then some (x5==2) else some false else bif x.2.2.1==34 then bif x.2.2.2.1==(-1:Int) then some true else (BX x.1.2.2.1 x.2.1).bind λVR=>some (VR.2.2.1==x1) else some true
def PU (x:Y1×Int×Sj):Option Bool:=YN x
def QJB:Cb:=⟨[Z1,Z2,Z3],[.bool],[false],λx=>PU x⟩
theorem QQX:Bb prog 46 QJB:=DV QVX QYH (λ_=>PU) (eO (BO QJV (BO QJW (BO QQW (BO QX5 (BO QX6 (BO QX7 BS))))))) func46
def QYI:LT:=lT []
noncomputable def QVY:=eN tab [(45,QJ9),(46,QJB)]
def Oa (x:Y1×Int×Int×Bool):Option Int:=
 (BX x.1.2.2.1 x.2.1).bind λx1=>(BX x1.2.2.2.2.1 x.2.2.1).bind λx2=>(Vk (x.1,x.2.1,x2)).bind λx3=>bif !x3 then some (16:Int) else bif !x.2.2.2 then some (6:Int) else (PU (x.1,x.2.1,x2)).bind λx4=>bif !x4 then some (30:Int) else some (0:Int)
def GQ (x:Y1×Int×Int×Bool):Option Int:=Oa x
def QPt:Cb:=⟨[Z1,Z2,Z2,.bool],[Z2],[false],λx=>GQ x⟩
theorem QX8:Bb prog 95 QPt:=DV QVY QYI (λ_=>GQ) (eO (BO QQV (BO QQX BS))) func95
def QK8:LT:=lT [(7,[3,8,9,10])]
noncomputable def QIc:=eN tab [(48,QEu),(85,QJ8)]
noncomputable def pE (v:Int×Int×Y1×Y2):St:=⟨[(3,.loc 0 []),(8,.row 1),sV 9 Z2 v.1,sV 10 Z2 v.2.1],[(0,.var Z1 (.val ⟨Z1,v.2.2.1⟩)),(1,.row Z2 v.2.2.2)],[],4096⟩
def TD (BM:Int×Int×Y1×Y2->Option Ol) (v:Int×Int×Y1×Y2):Option Ol:=
 (BX v.2.2.1.2.2.1 v.1).bind λx3=>bif decide (v.2.1 < x3.2.1) then (BX v.2.2.1.2.2.1 v.1).bind λx4=>((BX x4.2.2.2.1 v.2.1).bind λx5=>bif Nat.ble 1 1&&Nat.ble (List.length v.2.2.2+List.length ([x5.2.1]:Y2)) lim then let x6:Y2:=List.append v.2.2.2 ([x5.2.1]:Y2);let x7:Int:=IntKind.i64.wrap (v.2.1+1);BM (v.1,x7,v.2.2.1,x6) else none) else some (v.2.2.2,(-1:Int))
def Fh (N:Nat) (BM:Int×Int×Y1×Y2->Option Ol) (v:Int×Int×Y1×Y2):Option Ol:=TD BM v
theorem QNn (N:Nat) (s0) (v):(Bc QIc QK8 6 N f168 [Z5,Z2] [true,false] [] 0 BN) s0 (pE v)=Fh N (λv=>s0 (pE v)) v:=by kernel_rfl
def N8 (BZ:Int×Int×Y1×Y2->Option Ol) (x:Y1×Int×Sj):Option Ol:=
 bif x.2.2.1==24 then (F9 (x.1,x.2.1,x.2.2.2.1)).bind λx1=>some (([]:List Int),x1) else (Nc x.2.2).bind λx2=>bif decide (x2>=0) then BZ (x2,(0:Int),x.1,([]:List Int)) else some (([]:List Int),(-1:Int))
def WI (x:Y1×Int×Sj):Option Ol:=N8 (BP (Fh big) big) x
def QPu:Cb:=⟨[Z1,Z2,Z3],[Z5,Z2],[true,false],λx=>WI x⟩
theorem QX9:Bb prog 168 QPu:=DV QIc QK8 (λN x=>N8 (BP (Fh N) N) x) (eO (BO QJV (BO QQU BS))) func168 λN x=>Eq.trans (b:=N8 (λv=>Bd (Bc QIc QK8 6 N f168 [Z5,Z2] [true,false] [] 0 BN) N (pE v)) x) (by kernel_rfl) (by rw [funext (BR pE (QNn N) N)] <;> rfl)
def QK9:LT:=lT [(4,[0,1,5])]
noncomputable def QId:=eN tab []
noncomputable def pF (v:Y2×Y2×Int):St:=⟨[sV 0 Z5 v.1,sV 1 Z5 v.2.1,sV 5 Z2 v.2.2],[],[],4096⟩
def Hw (BM:Y2×Y2×Int->Option Bool) (v:Y2×Y2×Int):Option Bool:=
 bif decide (v.2.2 < (v.1.length:Int)) then (BX v.1 v.2.2).bind λx1=>((BX v.2.1 v.2.2).bind λx2=>bif x1 != x2 then some false else let x3:Int:=IntKind.i64.wrap (v.2.2+1);BM (v.1,v.2.1,x3)) else some true
def FW (N:Nat) (BM:Y2×Y2×Int->Option Bool) (v:Y2×Y2×Int):Option Bool:=Hw BM v
theorem QNo (N:Nat) (s0) (v):(Bc QId QK9 6 N f22 [.bool] [false] [] 0 BN) s0 (pF v)=FW N (λv=>s0 (pF v)) v:=by kernel_rfl
def KU (BZ:Y2×Y2×Int->Option Bool) (x:Y2×Y2):Option Bool:=
 bif (x.1.length:Int) != (x.2.length:Int) then some false else BZ (x.1,x.2,(0:Int))
def Gz (x:Y2×Y2):Option Bool:=KU (BP (FW big) big) x
def QEw:Cb:=⟨[Z5,Z5],[.bool],[false],λx=>Gz x⟩
theorem QJX:Bb prog 22 QEw:=DV QId QK9 (λN x=>KU (BP (FW N) N) x) (eO BS) func22 λN x=>Eq.trans (b:=KU (λv=>Bd (Bc QId QK9 6 N f22 [.bool] [false] [] 0 BN) N (pF v)) x) (by kernel_rfl) (by rw [funext (BR pF (QNo N) N)] <;> rfl)
def QYJ:LT:=lT []
noncomputable def QVZ:=eN tab [(169,QJ1)]
def VF (x:Int):Option Int:=
 (UF (x,(8:Int))).bind λx1=>some x1
def PD (x:Int):Option Int:=VF x
def QPv:Cb:=⟨[Z2],[Z2],[false],λx=>PD x⟩
theorem QXA:Bb prog 133 QPv:=DV QVZ QYJ (λ_=>PD) (eO (BO QQM BS)) func133
def QKA:LT:=lT [(4,[1,5,7,8])]
noncomputable def QIe:=eN tab [(126,QJ2),(133,QPv)]
noncomputable def pG (v:Y82):St:=⟨[sV 1 Z5 v.1,(5,.row 0),sV 7 Z2 v.2.1,sV 8 Z2 v.2.2.1],[(0,.row Z2 v.2.2.2)],[],4096⟩
def Ul (BM:Y82->Option Int) (v:Y82):Option Int:=
 bif decide (v.2.2.1 < (v.1.length:Int)) then (BX v.1 v.2.2.1).bind λx2=>bif decide (0<=x2)&&decide (x2 < (v.2.2.2.length:Int)) then (nth v.2.2.2 (Int.toNat x2)).bind λx3=>((PD x3).bind λx4=>let x5:Int:=IntKind.i64.wrap (v.2.1+x4);let x6:Int:=IntKind.i64.wrap (v.2.2.1+1);BM (v.1,x5,x6,v.2.2.2)) else none else some v.2.1
def Ga (N:Nat) (BM:Y82->Option Int) (v:Y82):Option Int:=Ul BM v
theorem QNp (N:Nat) (s0) (v):(Bc QIe QKA 6 N f98 [Z2] [false] [] 0 BN) s0 (pG v)=Ga N (λv=>s0 (pG v)) v:=by kernel_rfl
def Qa (BZ:Y82->Option Int) (x:Y1×Y2):Option Int:=
 (Td x.1.1).bind λx1=>BZ (x.2,(0:Int),(0:Int),x1.1)
def PL (x:Y1×Y2):Option Int:=Qa (BP (Ga big) big) x
def QJC:Cb:=⟨[Z1,Z5],[Z2],[false],λx=>PL x⟩
theorem QQY:Bb prog 98 QJC:=DV QIe QKA (λN x=>Qa (BP (Ga N) N) x) (eO (BO QQN (BO QXA BS))) func98 λN x=>Eq.trans (b:=Qa (λv=>Bd (Bc QIe QKA 6 N f98 [Z2] [false] [] 0 BN) N (pG v)) x) (by kernel_rfl) (by rw [funext (BR pG (QNp N) N)] <;> rfl)
def QYK:LT:=lT []
noncomputable def QVa:=eN tab [(22,QEw),(98,QJC),(168,QPu)]
def YP (x:Y1×Int×Sj×Y2):Option Y23:=
 (WI (x.1,x.2.1,x.2.2.1)).bind λx1=>let x2:Int:=IntKind.i64.wrap ((x.2.2.2.length:Int) - (x1.1.length:Int));bif decide (x2 < 0) then some (([]:List Int),false) else bif decide (0<=x2)&&decide (x2<=(x.2.2.2.length:Int)) then let x3:Y2:=List.drop (Int.toNat x2) x.2.2.2;((Gz (x3,x1.1)).bind λx4=>bif !x4 then some (([]:List Int),false) else bif decide (0<=x2)&&decide (x2<=(x.2.2.2.length:Int)) then let x5:Y2:=List.take (Int.toNat x2) x.2.2.2;bif Nat.ble 1 1&&Nat.ble (List.length ([]:Y2)+x5.length) lim then let x6:Y2:=List.append ([]:Y2) x5;bif decide (x1.2>=0) then bif Nat.ble 1 1&&Nat.ble (List.length x6+List.length ([x1.2]:Y2)) lim then let x7:Y2:=List.append x6 ([x1.2]:Y2);(PL (x.1,x7)).bind λx8=>some (x7,(decide (x8<=4096))) else none else (PL (x.1,x6)).bind λx9=>some (x6,(decide (x9<=4096))) else none else none) else none
def Tj (x:Y1×Int×Sj×Y2):Option Y23:=YP x
def QPw:Cb:=⟨[Z1,Z2,Z3,Z5],[Z5,.bool],[true,false],λx=>Tj x⟩
theorem QXB:Bb prog 130 QPw:=DV QVa QYK (λ_=>Tj) (eO (BO QJX (BO QQY (BO QX9 BS)))) func130
def qU:LT:={ live:=[(5,[1,2,6,7,8,9]),(8,[1,2,6,7,8,9,10]),(16,[1,2,6,7,8,9,10,11,13,14])],keep:=[],frz:=[(14,[11])] }
noncomputable def lY (mk:(α:Type)->Nat->α->List α):CO:={ tab:=tab,fs:=[(22,QEw),(129,QEt),(130,QPw)],inl:=[],rep:=mk }
noncomputable def pI (v:Y30):St:=⟨[sV 1 Z2 v.1,(2,.loc 0 []),sV 6 LX v.2.1,(7,.row 1),(8,.row 2),sV 9 .bool v.2.2.1,sV 10 Z2 v.2.2.2.1,sV 11 Z5 v.2.2.2.2.1,(13,.row 3),sV 14 Z2 v.2.2.2.2.2.1],[(0,.var Z1 (.val ⟨Z1,v.2.2.2.2.2.2.1⟩)),(1,.row Z5 v.2.2.2.2.2.2.2.1),(2,.row .bool v.2.2.2.2.2.2.2.2.1),(3,.row Z2 v.2.2.2.2.2.2.2.2.2)],[],4096⟩
noncomputable def aZ (v:Y37):St:=⟨[sV 1 Z2 v.1,(2,.loc 0 []),sV 6 LX v.2.1,(7,.row 1),(8,.row 2),sV 9 .bool v.2.2.1,sV 10 Z2 v.2.2.2.1],[(0,.var Z1 (.val ⟨Z1,v.2.2.2.2.1⟩)),(1,.row Z5 v.2.2.2.2.2.1),(2,.row .bool v.2.2.2.2.2.2)],[],4096⟩
noncomputable def Vr (v:Y45):St:=⟨[sV 1 Z2 v.1,(2,.loc 0 []),sV 6 LX v.2.1,(7,.row 1),(8,.row 2),sV 9 .bool v.2.2.1],[(0,.var Z1 (.val ⟨Z1,v.2.2.2.1⟩)),(1,.row Z5 v.2.2.2.2.1),(2,.row .bool v.2.2.2.2.2)],[],4096⟩
def EM (mk:(α:Type)->Nat->α->List α) (BM:Y45->Option Wx) (BQ:Y37->Option Wx) (Bp:Y30->Option Wx) (v:Y30):Option Wx:=
 bif decide (v.2.2.2.2.2.1 < (v.2.2.2.2.2.2.2.2.2.length:Int)) then bif decide (0<=v.2.2.2.2.2.1)&&decide (v.2.2.2.2.2.1 < (v.2.2.2.2.2.2.2.2.2.length:Int)) then (nth v.2.2.2.2.2.2.2.2.2 (Int.toNat v.2.2.2.2.2.1)).bind λFQ=>bif decide (0<=FQ)&&decide (FQ < (v.2.2.2.2.2.2.2.2.1.length:Int)) then (nth v.2.2.2.2.2.2.2.2.1 (Int.toNat FQ)).bind λKw=>bif Kw then bif decide (0<=FQ)&&decide (FQ < (v.2.2.2.2.2.2.2.1.length:Int)) then (nth v.2.2.2.2.2.2.2.1 (Int.toNat FQ)).bind λNC=>((Gz (NC,v.2.2.2.2.1)).bind λIh=>bif !Ih then some (([]:List Y2),false) else bif decide (0<=FQ)&&decide (FQ < (v.2.2.2.2.2.2.2.2.1.length:Int)) then (nth v.2.2.2.2.2.2.2.2.1 (Int.toNat FQ)).bind λH7=>bif !H7 then bif decide (0<=FQ)&&decide (FQ < (v.2.2.2.2.2.2.2.1.length:Int)) then let Qn:Si:=List.set v.2.2.2.2.2.2.2.1 (Int.toNat FQ) v.2.2.2.2.1;bif decide (0<=FQ)&&decide (FQ < (v.2.2.2.2.2.2.2.2.1.length:Int)) then let Sg:Y7:=List.set v.2.2.2.2.2.2.2.2.1 (Int.toNat FQ) true;let VR:Int:=IntKind.i64.wrap (v.2.2.2.2.2.1+1);Bp (v.1,v.2.1,true,v.2.2.2.1,v.2.2.2.2.1,VR,v.2.2.2.2.2.2.1,Qn,Sg,v.2.2.2.2.2.2.2.2.2) else none else none else let VL:Int:=IntKind.i64.wrap (v.2.2.2.2.2.1+1);Bp (v.1,v.2.1,v.2.2.1,v.2.2.2.1,v.2.2.2.2.1,VL,v.2.2.2.2.2.2.1,v.2.2.2.2.2.2.2.1,v.2.2.2.2.2.2.2.2.1,v.2.2.2.2.2.2.2.2.2) else none) else none else bif decide (0<=FQ)&&decide (FQ < (v.2.2.2.2.2.2.2.2.1.length:Int)) then (nth v.2.2.2.2.2.2.2.2.1 (Int.toNat FQ)).bind λVT=>bif !VT then bif decide (0<=FQ)&&decide (FQ < (v.2.2.2.2.2.2.2.1.length:Int)) then let x21:Si:=List.set v.2.2.2.2.2.2.2.1 (Int.toNat FQ) v.2.2.2.2.1;bif decide (0<=FQ)&&decide (FQ < (v.2.2.2.2.2.2.2.2.1.length:Int)) then let Xd:Y7:=List.set v.2.2.2.2.2.2.2.2.1 (Int.toNat FQ) true;let x23:Int:=IntKind.i64.wrap (v.2.2.2.2.2.1+1);Bp (v.1,v.2.1,true,v.2.2.2.1,v.2.2.2.2.1,x23,v.2.2.2.2.2.2.1,x21,Xd,v.2.2.2.2.2.2.2.2.2) else none else none else let x24:Int:=IntKind.i64.wrap (v.2.2.2.2.2.1+1);Bp (v.1,v.2.1,v.2.2.1,v.2.2.2.1,v.2.2.2.2.1,x24,v.2.2.2.2.2.2.1,v.2.2.2.2.2.2.2.1,v.2.2.2.2.2.2.2.2.1,v.2.2.2.2.2.2.2.2.2) else none else none else none else let x25:Int:=IntKind.i64.wrap (v.2.2.2.1+1);BQ (v.1,v.2.1,v.2.2.1,x25,v.2.2.2.2.2.2.1,v.2.2.2.2.2.2.2.1,v.2.2.2.2.2.2.2.2.1)
def JG (mk:(α:Type)->Nat->α->List α) (N:Nat) (BM:Y45->Option Wx) (BQ:Y37->Option Wx) (Bp:Y30->Option Wx) (v:Y30):Option Wx:=EM mk BM BQ Bp v
theorem QNs (mk:(α:Type)->Nat->α->List α) (N:Nat) (s0) (s1) (s2) (v):(Bc (lY mk) qU 6 N f96 [Z20,.bool] [true,false] [] 2 (CS s0 (CS s1 BN))) s2 (pI v)=JG mk N (λv=>s0 (Vr v)) (λv=>s1 (aZ v)) (λv=>s2 (pI v)) v:=by kernel_rfl
def FD (mk:(α:Type)->Nat->α->List α) (QB:Y30->Option Wx) (BM:Y45->Option Wx) (BQ:Y37->Option Wx) (v:Y37):Option Wx:=
 bif decide (v.2.2.2.1 < (v.2.1.length:Int)) then bif decide (0<=v.2.2.2.1)&&decide (v.2.2.2.1 < (v.2.2.2.2.2.2.length:Int)) then (nth v.2.2.2.2.2.2 (Int.toNat v.2.2.2.1)).bind λx5=>bif !x5 then let x6:Int:=IntKind.i64.wrap (v.2.2.2.1+1);BQ (v.1,v.2.1,v.2.2.1,x6,v.2.2.2.2.1,v.2.2.2.2.2.1,v.2.2.2.2.2.2) else (BX v.2.1 v.2.2.2.1).bind λx7=>bif decide (0<=v.2.2.2.1)&&decide (v.2.2.2.1 < (v.2.2.2.2.2.1.length:Int)) then (nth v.2.2.2.2.2.1 (Int.toNat v.2.2.2.1)).bind λx8=>(Tj (v.2.2.2.2.1,v.1,x7,x8)).bind λx9=>bif !x9.2 then some (([]:List Y2),false) else (IE (v.2.1,v.2.2.2.1)).bind λFJ=>QB (v.1,v.2.1,v.2.2.1,v.2.2.2.1,x9.1,(0:Int),v.2.2.2.2.1,v.2.2.2.2.2.1,v.2.2.2.2.2.2,FJ) else none else none else BM (v.1,v.2.1,v.2.2.1,v.2.2.2.2.1,v.2.2.2.2.2.1,v.2.2.2.2.2.2)
def Mv (mk:(α:Type)->Nat->α->List α) (N:Nat) (BM:Y45->Option Wx) (BQ:Y37->Option Wx) (v:Y37):Option Wx:=FD mk (BP (JG mk N BM BQ) N) BM BQ v
theorem QNr (mk:(α:Type)->Nat->α->List α) (N:Nat) (s0) (s1) (v):(Bc (lY mk) qU 6 N f96 [Z20,.bool] [true,false] [] 1 (CS s0 BN)) s1 (aZ v)=Mv mk N (λv=>s0 (Vr v)) (λv=>s1 (aZ v)) v:=Eq.trans (b:=FD mk (λv=>Bd (Bc (lY mk) qU 6 N f96 [Z20,.bool] [true,false] [] 2 (CS s0 (CS s1 BN))) N (pI v)) (λv=>s0 (Vr v)) (λv=>s1 (aZ v)) v) (by kernel_rfl) (by rw [funext (BR pI (QNs mk N s0 s1) N)];rfl)
def M5 (mk:(α:Type)->Nat->α->List α) (Ca:Y37->Option Wx) (BM:Y45->Option Wx) (v:Y45):Option Wx:=
 bif v.2.2.1 then Ca (v.1,v.2.1,false,(0:Int),v.2.2.2.1,v.2.2.2.2.1,v.2.2.2.2.2) else let jT:Int:=IntKind.i64.wrap ((v.2.1.length:Int) - 1);bif decide (0<=jT)&&decide (jT < (v.2.2.2.2.1.length:Int)) then (nth v.2.2.2.2.1 (Int.toNat jT)).bind λx27=>some (v.2.2.2.2.1,((x27.length:Int)==0)) else none
def Mt (mk:(α:Type)->Nat->α->List α) (N:Nat) (BM:Y45->Option Wx) (v:Y45):Option Wx:=M5 mk (BP (Mv mk N BM) N) BM v
theorem QNq (mk:(α:Type)->Nat->α->List α) (N:Nat) (s0) (v):(Bc (lY mk) qU 6 N f96 [Z20,.bool] [true,false] [] 0 BN) s0 (Vr v)=Mt mk N (λv=>s0 (Vr v)) v:=Eq.trans (b:=M5 mk (λv=>Bd (Bc (lY mk) qU 6 N f96 [Z20,.bool] [true,false] [] 1 (CS s0 BN)) N (aZ v)) (λv=>s0 (Vr v)) v) (by kernel_rfl) (by rw [funext (BR aZ (QNr mk N s0) N)];rfl)
def Qc (mk:(α:Type)->Nat->α->List α) (BZ:Y45->Option Wx) (x:Y1×Int):Option Wx:=
 (BX x.1.2.2.1 x.2).bind λx1=>bif decide (0<=(x1.2.2.2.2.1.length:Int))&&(decide ((x1.2.2.2.2.1.length:Int)<=(x1.2.2.2.2.1.length:Int))&&(decide ((x1.2.2.2.2.1.length:Int)<=68719476736)&&true)) then let x2:Si:=mk Y2 (Int.toNat (x1.2.2.2.2.1.length:Int)) ([]:Y2);bif decide (0<=(x1.2.2.2.2.1.length:Int))&&(decide ((x1.2.2.2.2.1.length:Int)<=(x1.2.2.2.2.1.length:Int))&&(decide ((x1.2.2.2.2.1.length:Int)<=68719476736)&&true)) then let x3:Y7:=mk Bool (Int.toNat (x1.2.2.2.2.1.length:Int)) false;bif decide (0<=(0:Int))&&decide ((0:Int) < (x3.length:Int)) then let x4:Y7:=List.set x3 (Int.toNat (0:Int)) true;BZ (x.2,x1.2.2.2.2.1,true,x.1,x2,x4) else none else none else none
def U1 (mk:(α:Type)->Nat->α->List α) (N:Nat) (x:Y1×Int):Option Wx:=Qc mk (BP (Mt mk N) N) x
theorem QZh (mk:(α:Type)->Nat->α->List α) (N:Nat) (x:Y1×Int):rise (lY mk) qU 6 N f96 [Z1,Z2] [Z20,.bool] [true,false] x=U1 mk N x:=Eq.trans (b:=Qc mk (λv=>Bd (Bc (lY mk) qU 6 N f96 [Z20,.bool] [true,false] [] 0 BN) N (Vr v)) x) (by kernel_rfl) (by rw [funext (BR Vr (QNq mk N) N)];rfl)
def PS (x:Y1×Int):Option Wx:=U1 (λ_=>List.replicate) big x
def QJD:Cb:=⟨[Z1,Z2],[Z20,.bool],[true,false],λx=>PS x⟩
theorem QQZ:Bb prog 96 QJD:=rzl (E:=lY (λ_=>List.replicate)) (U1 (λ_=>List.replicate)) (eO (BO QJX (BO QJU (BO QXB BS)))) func96 (QZh (λ_=>List.replicate))
def QYL:LT:=lT []
noncomputable def QVb:=eN tab []
def YJ (x:Int):Option Int:=
 bif decide (x < 0) then none else let x1:Int:=IntKind.u64.wrap ((1:Int) * 2 ^ (min (Int.toNat x) 64));let x2:Int:=IntKind.u64.wrap (x1 - 1);some x2
def PI (x:Int):Option Int:=YJ x
def QPx:Cb:=⟨[Z2],[ZF],[false],λx=>PI x⟩
theorem QXC:Bb prog 131 QPx:=DV QVb QYL (λ_=>PI) (eO BS) func131
def QKB:LT:=lT [(4,[4,5,6])]
noncomputable def QIf:=eN tab [(47,QAx)]
noncomputable def pJ (v:Y88):St:=⟨[sV 4 Z5 v.1,sV 5 ZF v.2.1,sV 6 Z2 v.2.2],[],[],4096⟩
def JQ (BM:Y88->Option Int) (v:Y88):Option Int:=
 bif decide (v.2.2 < (v.1.length:Int)) then (BX v.1 v.2.2).bind λx2=>bif decide (x2 < 0) then none else let x3:Int:=IntKind.u64.wrap ((1:Int) * 2 ^ (min (Int.toNat x2) 64));let x4:Int:=IntKind.i64.wrap (v.2.2+1);BM (v.1,(bits .or .u64 v.2.1 x3),x4) else some v.2.1
def JA (N:Nat) (BM:Y88->Option Int) (v:Y88):Option Int:=JQ BM v
theorem QNt (N:Nat) (s0) (v):(Bc QIf QKB 6 N f132 [ZF] [false] [] 0 BN) s0 (pJ v)=JA N (λv=>s0 (pJ v)) v:=by kernel_rfl
def MR (BZ:Y88->Option Int) (x:Sj):Option Int:=
 (I4 x).bind λx1=>BZ (x1.2,(0:Int),(0:Int))
def PK (x:Sj):Option Int:=MR (BP (JA big) big) x
def QPy:Cb:=⟨[Z3],[ZF],[false],λx=>PK x⟩
theorem QXD:Bb prog 132 QPy:=DV QIf QKB (λN x=>MR (BP (JA N) N) x) (eO (BO QF0 BS)) func132 λN x=>Eq.trans (b:=MR (λv=>Bd (Bc QIf QKB 6 N f132 [ZF] [false] [] 0 BN) N (pJ v)) x) (by kernel_rfl) (by rw [funext (BR pJ (QNt N) N)] <;> rfl)
def ZI:LT:=lT [(4,[0,1,2,7,8,9]),(9,[0,7,8,10]),(12,[0,7,8,10,11]),(16,[0,7,8,10,11,12,13]),(22,[0,7,8,15])]
noncomputable def Yg (mk:(α:Type)->Nat->α->List α):CO:={ tab:=tab,fs:=[(94,QJ7),(129,QEt),(131,QPx),(132,QPy)],inl:=[],rep:=mk }
noncomputable def pK (v:Y39):St:=⟨[sV 0 LX v.1,(7,.row 0),(8,.row 1),sV 10 .bool v.2.1,sV 11 Z2 v.2.2.1,(12,.row 2),sV 13 Z2 v.2.2.2.1],[(0,.row .bool v.2.2.2.2.1),(1,.row ZF v.2.2.2.2.2.1),(2,.row Z2 v.2.2.2.2.2.2)],[],4096⟩
noncomputable def ah (v:Y65):St:=⟨[sV 0 LX v.1,(7,.row 0),(8,.row 1),sV 10 .bool v.2.1,sV 11 Z2 v.2.2.1],[(0,.row .bool v.2.2.2.1),(1,.row ZF v.2.2.2.2)],[],4096⟩
noncomputable def pO (v:Y3×Int×Y7×Y2):St:=⟨[sV 0 LX v.1,(7,.row 0),(8,.row 1),sV 15 Z2 v.2.1],[(0,.row .bool v.2.2.1),(1,.row ZF v.2.2.2)],[],4096⟩
noncomputable def Tn (v:Y83):St:=⟨[sV 0 LX v.1,(7,.row 0),(8,.row 1),sV 10 .bool v.2.1],[(0,.row .bool v.2.2.1),(1,.row ZF v.2.2.2)],[],4096⟩
noncomputable def PW (v:Y47):St:=⟨[sV 0 LX v.1,sV 1 Z2 v.2.1,sV 2 Z2 v.2.2.1,(7,.row 0),(8,.row 1),sV 9 Z2 v.2.2.2.1],[(0,.row .bool v.2.2.2.2.1),(1,.row ZF v.2.2.2.2.2)],[],4096⟩
def Nv (mk:(α:Type)->Nat->α->List α) (BM:Y47->Option Y2) (BQ:Y83->Option Y2) (Bp:Y65->Option Y2) (Qj:Y39->Option Y2) (v:Y39):Option Y2:=
 bif decide (v.2.2.2.1 < (v.2.2.2.2.2.2.length:Int)) then bif decide (0<=v.2.2.1)&&decide (v.2.2.1 < (v.2.2.2.2.1.length:Int)) then (nth v.2.2.2.2.1 (Int.toNat v.2.2.1)).bind λx9=>bif x9 then bif decide (0<=v.2.2.2.1)&&decide (v.2.2.2.1 < (v.2.2.2.2.2.2.length:Int)) then (nth v.2.2.2.2.2.2 (Int.toNat v.2.2.2.1)).bind λFJ=>bif decide (0<=FJ)&&decide (FJ < (v.2.2.2.2.2.1.length:Int)) then (nth v.2.2.2.2.2.1 (Int.toNat FJ)).bind λFQ=>bif decide (0<=v.2.2.1)&&decide (v.2.2.1 < (v.2.2.2.2.2.1.length:Int)) then (nth v.2.2.2.2.2.1 (Int.toNat v.2.2.1)).bind λKw=>(BX v.1 v.2.2.1).bind λNC=>((PK NC).bind λIh=>let H7:Int:=bits .and .u64 FQ (bits .or .u64 Kw Ih);bif decide (0<=v.2.2.2.1)&&decide (v.2.2.2.1 < (v.2.2.2.2.2.2.length:Int)) then (nth v.2.2.2.2.2.2 (Int.toNat v.2.2.2.1)).bind λQn=>bif decide (0<=Qn)&&decide (Qn < (v.2.2.2.2.2.1.length:Int)) then (nth v.2.2.2.2.2.1 (Int.toNat Qn)).bind λSg=>bif H7 != Sg then bif decide (0<=v.2.2.2.1)&&decide (v.2.2.2.1 < (v.2.2.2.2.2.2.length:Int)) then (nth v.2.2.2.2.2.2 (Int.toNat v.2.2.2.1)).bind λVR=>bif decide (0<=VR)&&decide (VR < (v.2.2.2.2.2.1.length:Int)) then let VL:Y2:=List.set v.2.2.2.2.2.1 (Int.toNat VR) H7;let VT:Int:=IntKind.i64.wrap (v.2.2.2.1+1);Qj (v.1,true,v.2.2.1,VT,v.2.2.2.2.1,VL,v.2.2.2.2.2.2) else none else none else let x21:Int:=IntKind.i64.wrap (v.2.2.2.1+1);Qj (v.1,v.2.1,v.2.2.1,x21,v.2.2.2.2.1,v.2.2.2.2.2.1,v.2.2.2.2.2.2) else none else none) else none else none else none else let Xd:Int:=IntKind.i64.wrap (v.2.2.1+1);Bp (v.1,v.2.1,Xd,v.2.2.2.2.1,v.2.2.2.2.2.1) else none else let x23:Int:=IntKind.i64.wrap (v.2.2.1+1);Bp (v.1,v.2.1,x23,v.2.2.2.2.1,v.2.2.2.2.2.1)
def Np (mk:(α:Type)->Nat->α->List α) (N:Nat) (BM:Y47->Option Y2) (BQ:Y83->Option Y2) (Bp:Y65->Option Y2) (Qj:Y39->Option Y2) (v:Y39):Option Y2:=Nv mk BM BQ Bp Qj v
theorem QNx (mk:(α:Type)->Nat->α->List α) (N:Nat) (s0:St->Option Y2) (s1) (s2) (s3) (v):(Bc (Yg mk) ZI 6 N f97 [Z9] [true] [] 3 (CS s1 (CS s2 BN))) s3 (pK v)=Np mk N (λv=>s0 (PW v)) (λv=>s1 (Tn v)) (λv=>s2 (ah v)) (λv=>s3 (pK v)) v:=by kernel_rfl
def Km (mk:(α:Type)->Nat->α->List α) (sP:Y39->Option Y2) (BM:Y47->Option Y2) (BQ:Y83->Option Y2) (Bp:Y65->Option Y2) (v:Y65):Option Y2:=
 bif decide (v.2.2.1 < (v.1.length:Int)) then (IE (v.1,v.2.2.1)).bind λx8=>sP (v.1,v.2.1,v.2.2.1,(0:Int),v.2.2.2.1,v.2.2.2.2,x8) else BQ (v.1,v.2.1,v.2.2.2.1,v.2.2.2.2)
def Rm (mk:(α:Type)->Nat->α->List α) (N:Nat) (BM:Y47->Option Y2) (BQ:Y83->Option Y2) (Bp:Y65->Option Y2) (v:Y65):Option Y2:=Km mk (BP (Np mk N BM BQ Bp) N) BM BQ Bp v
theorem QNw (mk:(α:Type)->Nat->α->List α) (N:Nat) (s0:St->Option Y2) (s1) (s2) (v):(Bc (Yg mk) ZI 6 N f97 [Z9] [true] [] 2 (CS s1 BN)) s2 (ah v)=Rm mk N (λv=>s0 (PW v)) (λv=>s1 (Tn v)) (λv=>s2 (ah v)) v:=Eq.trans (b:=Km mk (λv=>Bd (Bc (Yg mk) ZI 6 N f97 [Z9] [true] [] 3 (CS s1 (CS s2 BN))) N (pK v)) (λv=>s0 (PW v)) (λv=>s1 (Tn v)) (λv=>s2 (ah v)) v) (by kernel_rfl) (by rw [funext (BR pK (QNx mk N s0 s1 s2) N)];rfl)
def Nw (mk:(α:Type)->Nat->α->List α) (BM:Y47->Option Y2) (BQ:Y83->Option Y2) (Bp:Y3×Int×Y7×Y2->Option Y2) (v:Y3×Int×Y7×Y2):Option Y2:=
 bif decide (v.2.1 < (v.1.length:Int)) then bif decide (0<=v.2.1)&&decide (v.2.1 < (v.2.2.1.length:Int)) then (nth v.2.2.1 (Int.toNat v.2.1)).bind λx24=>bif !x24 then bif decide (0<=v.2.1)&&decide (v.2.1 < (v.2.2.2.length:Int)) then let x25:Y2:=List.set v.2.2.2 (Int.toNat v.2.1) (0:Int);let jT:Int:=IntKind.i64.wrap (v.2.1+1);Bp (v.1,jT,v.2.2.1,x25) else none else let x27:Int:=IntKind.i64.wrap ((v.1.length:Int) - 1);bif v.2.1==x27 then bif decide (0<=v.2.1)&&decide (v.2.1 < (v.2.2.2.length:Int)) then let x28:Y2:=List.set v.2.2.2 (Int.toNat v.2.1) (0:Int);let x29:Int:=IntKind.i64.wrap (v.2.1+1);Bp (v.1,x29,v.2.2.1,x28) else none else let x30:Int:=IntKind.i64.wrap (v.2.1+1);Bp (v.1,x30,v.2.2.1,v.2.2.2) else none else some v.2.2.2
def Ro (mk:(α:Type)->Nat->α->List α) (N:Nat) (BM:Y47->Option Y2) (BQ:Y83->Option Y2) (Bp:Y3×Int×Y7×Y2->Option Y2) (v:Y3×Int×Y7×Y2):Option Y2:=Nw mk BM BQ Bp v
theorem QNy (mk:(α:Type)->Nat->α->List α) (N:Nat) (s0:St->Option Y2) (s1:St->Option Y2) (s2) (v):(Bc (Yg mk) ZI 6 N f97 [Z9] [true] [] 4 BN) s2 (pO v)=Ro mk N (λv=>s0 (PW v)) (λv=>s1 (Tn v)) (λv=>s2 (pO v)) v:=by kernel_rfl
def Rp (mk:(α:Type)->Nat->α->List α) (QB:Y65->Option Y2) (QZV:Y3×Int×Y7×Y2->Option Y2) (BM:Y47->Option Y2) (BQ:Y83->Option Y2) (v:Y83):Option Y2:=
 bif v.2.1 then QB (v.1,false,(0:Int),v.2.2.1,v.2.2.2) else QZV (v.1,(0:Int),v.2.2.1,v.2.2.2)
def Rk (mk:(α:Type)->Nat->α->List α) (N:Nat) (BM:Y47->Option Y2) (BQ:Y83->Option Y2) (v:Y83):Option Y2:=Rp mk (BP (Rm mk N BM BQ) N) (BP (Ro mk N BM BQ) N) BM BQ v
theorem QNv (mk:(α:Type)->Nat->α->List α) (N:Nat) (s0:St->Option Y2) (s1) (v):(Bc (Yg mk) ZI 6 N f97 [Z9] [true] [] 1 BN) s1 (Tn v)=Rk mk N (λv=>s0 (PW v)) (λv=>s1 (Tn v)) v:=Eq.trans (b:=Rp mk (λv=>Bd (Bc (Yg mk) ZI 6 N f97 [Z9] [true] [] 2 (CS s1 BN)) N (ah v)) (λv=>Bd (Bc (Yg mk) ZI 6 N f97 [Z9] [true] [] 4 BN) N (pO v)) (λv=>s0 (PW v)) (λv=>s1 (Tn v)) v) (by kernel_rfl) (by rw [funext (BR ah (QNw mk N s0 s1) N),funext (BR pO (QNy mk N s0 s1) N)];rfl)
def Kl (mk:(α:Type)->Nat->α->List α) (Ca:Y83->Option Y2) (BM:Y47->Option Y2) (v:Y47):Option Y2:=
 bif decide (v.2.2.2.1 < (v.1.length:Int)) then (PI v.2.2.1).bind λx3=>bif decide (0<=v.2.2.2.1)&&decide (v.2.2.2.1 < (v.2.2.2.2.2.length:Int)) then let x4:Y2:=List.set v.2.2.2.2.2 (Int.toNat v.2.2.2.1) x3;let x5:Int:=IntKind.i64.wrap (v.2.2.2.1+1);BM (v.1,v.2.1,v.2.2.1,x5,v.2.2.2.2.1,x4) else none else (PI v.2.1).bind λx6=>bif decide (0<=(0:Int))&&decide ((0:Int) < (v.2.2.2.2.2.length:Int)) then let x7:Y2:=List.set v.2.2.2.2.2 (Int.toNat (0:Int)) x6;Ca (v.1,true,v.2.2.2.2.1,x7) else none
def Rj (mk:(α:Type)->Nat->α->List α) (N:Nat) (BM:Y47->Option Y2) (v:Y47):Option Y2:=Kl mk (BP (Rk mk N BM) N) BM v
theorem QNu (mk:(α:Type)->Nat->α->List α) (N:Nat) (s0) (v):(Bc (Yg mk) ZI 6 N f97 [Z9] [true] [] 0 BN) s0 (PW v)=Rj mk N (λv=>s0 (PW v)) v:=Eq.trans (b:=Kl mk (λv=>Bd (Bc (Yg mk) ZI 6 N f97 [Z9] [true] [] 1 BN) N (Tn v)) (λv=>s0 (PW v)) v) (by kernel_rfl) (by rw [funext (BR Tn (QNv mk N s0) N)];rfl)
def V4 (mk:(α:Type)->Nat->α->List α) (BZ:Y47->Option Y2) (x:Y89):Option Y2:=
 (Ua x.1).bind λx1=>bif decide (0<=(x.1.length:Int))&&(decide ((x.1.length:Int)<=(x.1.length:Int))&&(decide ((x.1.length:Int)<=68719476736)&&true)) then let x2:Y2:=mk Int (Int.toNat (x.1.length:Int)) (0:Int);BZ (x.1,x.2.1,x.2.2,(0:Int),x1,x2) else none
def Ze (mk:(α:Type)->Nat->α->List α) (N:Nat) (x:Y89):Option Y2:=V4 mk (BP (Rj mk N) N) x
theorem QZi (mk:(α:Type)->Nat->α->List α) (N:Nat) (x:Y89):rise (Yg mk) ZI 6 N f97 [LX,Z2,Z2] [Z9] [true] x=Ze mk N x:=Eq.trans (b:=V4 mk (λv=>Bd (Bc (Yg mk) ZI 6 N f97 [Z9] [true] [] 0 BN) N (PW v)) x) (by kernel_rfl) (by rw [funext (BR PW (QNu mk N) N)];rfl)
def Ve (x:Y89):Option Y2:=Ze (λ_=>List.replicate) big x
def QJE:Cb:=⟨[LX,Z2,Z2],[Z9],[true],λx=>Ve x⟩
theorem QQa:Bb prog 97 QJE:=rzl (E:=Yg (λ_=>List.replicate)) (Ze (λ_=>List.replicate)) (eO (BO QQT (BO QJU (BO QXC (BO QXD BS))))) func97 (QZi (λ_=>List.replicate))
def qV:LT:=lT [(8,[1,2,6,7,8,9]),(18,[6,13,14]),(22,[6,13,14,15,17])]
noncomputable def qL:=eN tab [(47,QAx),(93,QPp),(94,QJ7),(95,QPt),(96,QJD),(97,QJE)]
noncomputable def pQ (v:Y73):St:=⟨[(6,.loc 0 []),(13,.row 1),sV 14 Z2 v.1,(15,.row 2),sV 17 Z2 v.2.1],[(0,.var Z0 (.val ⟨Z0,v.2.2.1⟩)),(1,.row ZF v.2.2.2.1),(2,.row Z2 v.2.2.2.2)],[],4096⟩
noncomputable def aj (v:Int×Y0×Y2):St:=⟨[(6,.loc 0 []),(13,.row 1),sV 14 Z2 v.1],[(0,.var Z0 (.val ⟨Z0,v.2.1⟩)),(1,.row ZF v.2.2)],[],4096⟩
noncomputable def Vs (v:Y48):St:=⟨[sV 1 Z2 v.1,(2,.loc 0 []),(6,.loc 1 []),(7,.row 2),sV 8 Z2 v.2.1,sV 9 Z2 v.2.2.1],[(0,.var Z1 (.val ⟨Z1,v.2.2.2.1⟩)),(1,.var Z0 (.val ⟨Z0,v.2.2.2.2.1⟩)),(2,.row .bool v.2.2.2.2.2)],[],4096⟩
def P8 (BM:Y48->Option ZC) (BQ:Int×Y0×Y2->Option ZC) (Bp:Y73->Option ZC) (v:Y73):Option ZC:=
 bif decide (v.2.1 < (v.2.2.2.2.length:Int)) then bif decide (0<=v.1)&&decide (v.1 < (v.2.2.2.1.length:Int)) then (nth v.2.2.2.1 (Int.toNat v.1)).bind λIh=>bif decide (0<=v.2.1)&&decide (v.2.1 < (v.2.2.2.2.length:Int)) then (nth v.2.2.2.2 (Int.toNat v.2.1)).bind λH7=>bif decide (H7 < 0) then none else let Qn:Int:=Ih.fdiv (2 ^ (min (Int.toNat H7) 64));bif (Qn.tmod (2:Int))==0 then some (v.1,(38:Int)) else let Sg:Int:=IntKind.i64.wrap (v.2.1+1);Bp (v.1,Sg,v.2.2.1,v.2.2.2.1,v.2.2.2.2) else none else none else let VR:Int:=IntKind.i64.wrap (v.1+1);BQ (VR,v.2.2.1,v.2.2.2.1)
def Hl (N:Nat) (BM:Y48->Option ZC) (BQ:Int×Y0×Y2->Option ZC) (Bp:Y73->Option ZC) (v:Y73):Option ZC:=P8 BM BQ Bp v
theorem QO1 (N:Nat) (s0:St->Option ZC) (s1) (s2) (v):(Bc qL qV 6 N f49 [Z2,Z2] [false,false] [] 2 (CS s1 BN)) s2 (pQ v)=Hl N (λv=>s0 (Vs v)) (λv=>s1 (aj v)) (λv=>s2 (pQ v)) v:=by kernel_rfl
def LB (QB:Y73->Option ZC) (BM:Y48->Option ZC) (BQ:Int×Y0×Y2->Option ZC) (v:Int×Y0×Y2):Option ZC:=
 bif decide (v.1 < (v.2.1.2.2.2.2.1.length:Int)) then (BX v.2.1.2.2.2.2.1 v.1).bind λKw=>(I4 Kw).bind λNC=>QB (v.1,(0:Int),v.2.1,v.2.2,NC.1) else some ((0:Int),(0:Int))
def Eh (N:Nat) (BM:Y48->Option ZC) (BQ:Int×Y0×Y2->Option ZC) (v:Int×Y0×Y2):Option ZC:=LB (BP (Hl N BM BQ) N) BM BQ v
theorem QO0 (N:Nat) (s0:St->Option ZC) (s1) (v):(Bc qL qV 6 N f49 [Z2,Z2] [false,false] [] 1 BN) s1 (aj v)=Eh N (λv=>s0 (Vs v)) (λv=>s1 (aj v)) v:=Eq.trans (b:=LB (λv=>Bd (Bc qL qV 6 N f49 [Z2,Z2] [false,false] [] 2 (CS s1 BN)) N (pQ v)) (λv=>s0 (Vs v)) (λv=>s1 (aj v)) v) (by kernel_rfl) (by rw [funext (BR pQ (QO1 N s0 s1) N)];rfl)
def LA (Ca:Int×Y0×Y2->Option ZC) (BM:Y48->Option ZC) (v:Y48):Option ZC:=
 bif decide (v.2.2.1 < (v.2.2.2.2.1.2.2.2.2.1.length:Int)) then bif decide (0<=v.2.2.1)&&decide (v.2.2.1 < (v.2.2.2.2.2.length:Int)) then (nth v.2.2.2.2.2 (Int.toNat v.2.2.1)).bind λx5=>bif x5 then (GQ (v.2.2.2.1,v.1,v.2.2.1,true)).bind λx6=>bif x6 != 0 then some (v.2.2.1,x6) else let x7:Int:=IntKind.i64.wrap (v.2.2.1+1);BM (v.1,v.2.1,x7,v.2.2.2.1,v.2.2.2.2.1,v.2.2.2.2.2) else (GQ (v.2.2.2.1,v.1,v.2.2.1,(v.2.2.1==v.2.1))).bind λx8=>bif x8 != 0 then some (v.2.2.1,x8) else let x9:Int:=IntKind.i64.wrap (v.2.2.1+1);BM (v.1,v.2.1,x9,v.2.2.2.1,v.2.2.2.2.1,v.2.2.2.2.2) else none else (PS (v.2.2.2.1,v.1)).bind λFJ=>bif !FJ.2 then some ((-1:Int),(36:Int)) else (Ve (v.2.2.2.2.1.2.2.2.2.1,v.2.2.2.2.1.2.1,(v.2.2.2.2.1.2.2.2.1.length:Int))).bind λFQ=>Ca ((0:Int),v.2.2.2.2.1,FQ)
def Du (N:Nat) (BM:Y48->Option ZC) (v:Y48):Option ZC:=LA (BP (Eh N BM) N) BM v
theorem QNz (N:Nat) (s0) (v):(Bc qL qV 6 N f49 [Z2,Z2] [false,false] [] 0 BN) s0 (Vs v)=Du N (λv=>s0 (Vs v)) v:=Eq.trans (b:=LA (λv=>Bd (Bc qL qV 6 N f49 [Z2,Z2] [false,false] [] 1 BN) N (aj v)) (λv=>s0 (Vs v)) v) (by kernel_rfl) (by rw [funext (BR aj (QO0 N s0) N)];rfl)
def KX (BZ:Y48->Option ZC) (x:Y1×Int):Option ZC:=
 (BX x.1.2.2.1 x.2).bind λx1=>((Xy x1.2.2.2.2.1).bind λx2=>bif x2 != 0 then some ((-1:Int),(12:Int)) else bif x.2==0 then bif x1.2.1 != 0 then some ((-1:Int),(30:Int)) else bif x1.2.2.1 != (-1:Int) then some ((-1:Int),(30:Int)) else (Ua x1.2.2.2.2.1).bind λx3=>let x4:Int:=IntKind.i64.wrap ((x1.2.2.2.2.1.length:Int) - 1);BZ (x.2,x4,(0:Int),x.1,x1,x3) else (Ua x1.2.2.2.2.1).bind λVL=>let VT:Int:=IntKind.i64.wrap ((x1.2.2.2.2.1.length:Int) - 1);BZ (x.2,VT,(0:Int),x.1,x1,VL))
def OI (x:Y1×Int):Option ZC:=KX (BP (Du big) big) x
def QJF:Cb:=⟨[Z1,Z2],[Z2,Z2],[false,false],λx=>OI x⟩
theorem QQb:Bb prog 49 QJF:=DV qL qV (λN x=>KX (BP (Du N) N) x) (eO (BO QF0 (BO QX3 (BO QQT (BO QX8 (BO QQZ (BO QQa BS))))))) func49 λN x=>Eq.trans (b:=KX (λv=>Bd (Bc qL qV 6 N f49 [Z2,Z2] [false,false] [] 0 BN) N (Vs v)) x) (by kernel_rfl) (by rw [funext (BR Vs (QNz N) N)] <;> rfl)
def QKC:LT:=lT [(3,[0,3,4])]
noncomputable def QIg:=eN tab []
noncomputable def pR (v:Y2×Int×Y9):St:=⟨[sV 0 Z9 v.1,(3,.row 0),sV 4 Z2 v.2.1],[(0,.row Z6 v.2.2)],[],4096⟩
def IX (BM:Y2×Int×Y9->Option Y9) (v:Y2×Int×Y9):Option Y9:=
 bif decide (v.2.1 < (v.1.length:Int)) then bif v.2.1==0 then (BX v.1 v.2.1).bind λx1=>let x2:Y9:=([(v.2.1,(x1,()))]:Y9);bif Nat.ble 1 2&&Nat.ble (List.length v.2.2+x2.length) lim then let x3:Int:=IntKind.i64.wrap (v.2.1+1);BM (v.1,x3,(List.append v.2.2 x2)) else none else (BX v.1 v.2.1).bind λx4=>let x5:Int:=IntKind.i64.wrap (v.2.1 - 1);((BX v.1 x5).bind λx6=>bif x4 != x6 then (BX v.1 v.2.1).bind λx7=>let x8:Y9:=([(v.2.1,(x7,()))]:Y9);bif Nat.ble 1 2&&Nat.ble (List.length v.2.2+x8.length) lim then let x9:Int:=IntKind.i64.wrap (v.2.1+1);BM (v.1,x9,(List.append v.2.2 x8)) else none else let FJ:Int:=IntKind.i64.wrap (v.2.1+1);BM (v.1,FJ,v.2.2)) else some v.2.2
def Nr (N:Nat) (BM:Y2×Int×Y9->Option Y9) (v:Y2×Int×Y9):Option Y9:=IX BM v
theorem QO2 (N:Nat) (s0) (v):(Bc QIg QKC 6 N f99 [dA] [true] [] 0 BN) s0 (pR v)=Nr N (λv=>s0 (pR v)) v:=by kernel_rfl
def SH (BZ:Y2×Int×Y9->Option Y9) (x:Y2):Option Y9:=
 BZ (x,(0:Int),([]:List Y5))
def Vh (x:Y2):Option Y9:=SH (BP (Nr big) big) x
def QPz:Cb:=⟨[Z9],[dA],[true],λx=>Vh x⟩
theorem QXE:Bb prog 99 QPz:=DV QIg QKC (λN x=>SH (BP (Nr N) N) x) (eO BS) func99 λN x=>Eq.trans (b:=SH (λv=>Bd (Bc QIg QKC 6 N f99 [dA] [true] [] 0 BN) N (pR v)) x) (by kernel_rfl) (by rw [funext (BR pR (QO2 N) N)] <;> rfl)
def QB8:LT:=lK [(5,[2,4,5,6,8,9])] [(11,[1,2,4])]
noncomputable def QAq:CO:={ tab:=tab,fs:=[(27,Gz2),(96,QJD),(97,QJE),(98,QJC),(99,QPz)],inl:=[(10,f10,Tz3)] }
noncomputable def pU (v:Y25):St:=⟨[(2,.loc 0 []),(4,.loc 1 []),(5,.loc 6 []),(6,.row 7),(8,.row 8),sV 9 Z2 v.1],[(0,.var Z1 (.val ⟨Z1,v.2.1⟩)),(1,.var Z0 (.pair (.val ⟨.str,v.2.2.1⟩) (.pair (.val ⟨Z2,v.2.2.2.1⟩) (.pair (.val ⟨Z2,v.2.2.2.2.1⟩) (.pair (.row 2) (.pair (.row 3) (.pair (.row 4) (.pair (.row 5) (.val ⟨.unit,v.2.2.2.2.2.1⟩))))))))),(2,.row Z18 v.2.2.2.2.2.2.1),(3,.row Z3 v.2.2.2.2.2.2.2.1),(4,.row Z6 v.2.2.2.2.2.2.2.2.1),(5,.row Z6 v.2.2.2.2.2.2.2.2.2.1),(6,.var Z0 (.val ⟨Z0,v.2.2.2.2.2.2.2.2.2.2.1⟩)),(7,.row Z5 v.2.2.2.2.2.2.2.2.2.2.2.1),(8,.row ZF v.2.2.2.2.2.2.2.2.2.2.2.2)],[],4096⟩
noncomputable def ak (v:Y24):St:=⟨[(1,.loc 0 []),(2,.loc 1 []),(3,.loc 5 []),sV 4 Z2 v.1],[(0,.var Z1 (.val ⟨Z1,v.2.1⟩)),(1,.var Z1 (.pair (.row 2) (.pair (.row 3) (.pair (.row 4) (.val ⟨.unit,v.2.2.1⟩))))),(2,.row Z4 v.2.2.2.1),(3,.row .str v.2.2.2.2.1),(4,.row Z0 v.2.2.2.2.2.1),(5,.var Z1 (.pair (.row 6) (.pair (.row 7) (.pair (.row 8) .unit)))),(6,.row Z4 v.2.2.2.2.2.2.1),(7,.row .str v.2.2.2.2.2.2.2.1),(8,.row Z0 v.2.2.2.2.2.2.2.2.1),(9,.var Z1 (.val ⟨Z1,v.2.2.2.2.2.2.2.2.2.1⟩)),(10,.var Z0 (.pair (.val ⟨.str,v.2.2.2.2.2.2.2.2.2.2.1⟩) (.pair (.val ⟨Z2,v.2.2.2.2.2.2.2.2.2.2.2.1⟩) (.pair (.val ⟨Z2,v.2.2.2.2.2.2.2.2.2.2.2.2.1⟩) (.pair (.row 11) (.pair (.row 12) (.pair (.row 13) (.pair (.row 14) (.val ⟨.unit,v.2.2.2.2.2.2.2.2.2.2.2.2.2.1⟩))))))))),(11,.row Z18 v.2.2.2.2.2.2.2.2.2.2.2.2.2.2.1),(12,.row Z3 v.2.2.2.2.2.2.2.2.2.2.2.2.2.2.2.1),(13,.row Z6 v.2.2.2.2.2.2.2.2.2.2.2.2.2.2.2.2.1),(14,.row Z6 v.2.2.2.2.2.2.2.2.2.2.2.2.2.2.2.2.2.1)],[(4096,[sV 1 Z2 v.2.2.2.2.2.2.2.2.2.2.2.2.2.2.2.2.2.2,(2,.loc 9 []),(4,.loc 10 [])])],16826368⟩
def TF (BM:Y24->Option Y0) (BQ:Y25->Option Y0) (v:Y25):Option Y0:=
 bif decide (v.1 < (v.2.2.2.2.2.2.2.2.2.2.2.1.length:Int)) then bif decide (0<=v.1)&&decide (v.1 < (v.2.2.2.2.2.2.2.2.2.2.2.1.length:Int)) then (nth v.2.2.2.2.2.2.2.2.2.2.2.1 (Int.toNat v.1)).bind λSg=>((PL (v.2.1,Sg)).bind λVR=>let VL:Y2:=([(IntKind.u64.wrap VR)]:Y2);bif Nat.ble 1 1&&Nat.ble (List.length v.2.2.2.2.2.2.2.2.2.2.2.2+VL.length) lim then let VT:Y2:=List.append v.2.2.2.2.2.2.2.2.2.2.2.2 VL;let x21:Int:=IntKind.i64.wrap (v.1+1);BQ (x21,v.2.1,v.2.2.1,v.2.2.2.1,v.2.2.2.2.1,v.2.2.2.2.2.1,v.2.2.2.2.2.2.1,v.2.2.2.2.2.2.2.1,v.2.2.2.2.2.2.2.2.1,v.2.2.2.2.2.2.2.2.2.1,v.2.2.2.2.2.2.2.2.2.2.1,v.2.2.2.2.2.2.2.2.2.2.2.1,VT) else none) else none else (Vh v.2.2.2.2.2.2.2.2.2.2.2.2).bind λXd=>(Ve (v.2.2.2.2.2.2.2.2.2.2.1.2.2.2.2.1,v.2.2.2.2.2.2.2.2.2.2.1.2.1,(v.2.2.2.2.2.2.2.2.2.2.1.2.2.2.1.length:Int))).bind λx23=>(Vh x23).bind λx24=>some (v.2.2.2.2.2.2.2.2.2.2.1.1,(v.2.2.2.2.2.2.2.2.2.2.1.2.1,(v.2.2.2.2.2.2.2.2.2.2.1.2.2.1,(v.2.2.2.2.2.2.2.2.2.2.1.2.2.2.1,(v.2.2.2.2.2.2.2.2.2.2.1.2.2.2.2.1,(Xd,(x24,v.2.2.2.2.2.2.2.2.2.2.1.2.2.2.2.2.2.2)))))))
def KF (N:Nat) (BM:Y24->Option Y0) (BQ:Y25->Option Y0) (v:Y25):Option Y0:=TF BM BQ v
theorem QO4 (N:Nat) (s0:St->Option Y0) (s1) (v):(Bc QAq QB8 6 N f50 [Z0] [false] [] 0 BN) s1 (pU v)=KF N (λv=>s0 (ak v)) (λv=>s1 (pU v)) v:=by kernel_rfl
def OM (Ca:Y25->Option Y0) (BM:Y24->Option Y0) (v:Y24):Option Y0:=
 bif decide (v.1 < (v.2.1.2.2.1.length:Int)) then (BX v.2.1.2.2.1 v.1).bind λx3=>let x4:Y6:=([]:Y6);bif Nat.ble 1 2&&Nat.ble (List.length x4+x3.2.2.2.1.length) lim then let x5:Y6:=List.append x4 x3.2.2.2.1;let x6:Y3:=([]:Y3);bif Nat.ble 1 4&&Nat.ble (List.length x6+x3.2.2.2.2.1.length) lim then let x7:Y3:=List.append x6 x3.2.2.2.2.1;let x8:Y9:=([]:Y9);bif Nat.ble 1 2&&Nat.ble (List.length x8+x3.2.2.2.2.2.1.length) lim then let x9:Y9:=List.append x8 x3.2.2.2.2.2.1;let FJ:Y9:=([]:Y9);bif Nat.ble 1 2&&Nat.ble (List.length FJ+x3.2.2.2.2.2.2.1.length) lim then let FQ:Y9:=List.append FJ x3.2.2.2.2.2.2.1;let Kw:jc:=([(x3.1,(x3.2.1,(x3.2.2.1,(x5,(x7,(x9,(FQ,x3.2.2.2.2.2.2.2)))))))]:jc);bif Nat.ble 1 7&&Nat.ble (List.length v.2.2.2.2.2.2.2.2.1+Kw.length) lim then let NC:jc:=List.append v.2.2.2.2.2.2.2.2.1 Kw;let Ih:Int:=IntKind.i64.wrap (v.1+1);BM (Ih,v.2.1,v.2.2.1,v.2.2.2.1,v.2.2.2.2.1,v.2.2.2.2.2.1,v.2.2.2.2.2.2.1,v.2.2.2.2.2.2.2.1,NC,v.2.2.2.2.2.2.2.2.2.1,v.2.2.2.2.2.2.2.2.2.2.1,v.2.2.2.2.2.2.2.2.2.2.2.1,v.2.2.2.2.2.2.2.2.2.2.2.2.1,v.2.2.2.2.2.2.2.2.2.2.2.2.2.1,v.2.2.2.2.2.2.2.2.2.2.2.2.2.2.1,v.2.2.2.2.2.2.2.2.2.2.2.2.2.2.2.1,v.2.2.2.2.2.2.2.2.2.2.2.2.2.2.2.2.1,v.2.2.2.2.2.2.2.2.2.2.2.2.2.2.2.2.2.1,v.2.2.2.2.2.2.2.2.2.2.2.2.2.2.2.2.2.2) else none else none else none else none else none else bif decide (0<=v.2.2.2.2.2.2.2.2.2.2.2.2.2.2.2.2.2.2)&&decide (v.2.2.2.2.2.2.2.2.2.2.2.2.2.2.2.2.2.2 < (v.2.2.2.2.2.2.2.2.1.length:Int)) then (nth v.2.2.2.2.2.2.2.2.1 (Int.toNat v.2.2.2.2.2.2.2.2.2.2.2.2.2.2.2.2.2.2)).bind λH7=>(PS (v.2.2.2.2.2.2.2.2.2.1,v.2.2.2.2.2.2.2.2.2.2.2.2.2.2.2.2.2.2)).bind λQn=>Ca ((0:Int),v.2.2.2.2.2.2.2.2.2.1,v.2.2.2.2.2.2.2.2.2.2.1,v.2.2.2.2.2.2.2.2.2.2.2.1,v.2.2.2.2.2.2.2.2.2.2.2.2.1,v.2.2.2.2.2.2.2.2.2.2.2.2.2.1,v.2.2.2.2.2.2.2.2.2.2.2.2.2.2.1,v.2.2.2.2.2.2.2.2.2.2.2.2.2.2.2.1,v.2.2.2.2.2.2.2.2.2.2.2.2.2.2.2.2.1,v.2.2.2.2.2.2.2.2.2.2.2.2.2.2.2.2.2.1,H7,Qn.1,([]:List Int)) else none
def Fj (N:Nat) (BM:Y24->Option Y0) (v:Y24):Option Y0:=OM (BP (KF N BM) N) BM v
theorem QO3 (N:Nat) (s0) (v):(Bc QAq QB8 6 N f50 [Z0] [false] [.call 1 1 10] 0 BN) s0 (ak v)=Fj N (λv=>s0 (ak v)) v:=Eq.trans (b:=OM (λv=>Bd (Bc QAq QB8 6 N f50 [Z0] [false] [] 0 BN) N (pU v)) (λv=>s0 (ak v)) v) (by kernel_rfl) (by rw [funext (BR pU (QO4 N s0) N)];rfl)
def N9 (BZ:Y24->Option Y0) (x:Y1×Int):Option Y0:=
 (Vd x.1.1).bind λx1=>bif Nat.ble 1 1&&Nat.ble (List.length ([]:Si)+x.1.2.1.length) lim then let x2:Si:=List.append ([]:Si) x.1.2.1;BZ ((0:Int),x.1,(),([]:List jZ),([]:List Y2),([]:List Y0),x1,x2,([]:List Y0),x.1,([]:List Int),(0:Int),(0:Int),(),([]:List (Y2×Y22)),([]:List Sj),([]:List Y5),([]:List Y5),x.2) else none
def Ra (x:Y1×Int):Option Y0:=N9 (BP (Fj big) big) x
def QJG:Cb:=⟨[Z1,Z2],[Z0],[false],λx=>Ra x⟩
theorem QQc:Bb prog 50 QJG:=DV QAq QB8 (λN x=>N9 (BP (Fj N) N) x) ⟨OD,(BO Lz2 (BO QQZ (BO QQa (BO QQY (BO QXE BS))))),λ_ _ _=>rfl,mixed,(Cm (Cj func10 rfl rfl (by kernel_rfl)) Gv),Gy,Gx⟩ func50 λN x=>Eq.trans (b:=N9 (λv=>Bd (Bc QAq QB8 6 N f50 [Z0] [false] [.call 1 1 10] 0 BN) N (ak v)) x) (by kernel_rfl) (by rw [funext (BR ak (QO3 N) N)] <;> rfl)
def QKD:LT:=lT [(4,[0,1,5])]
noncomputable def QIh:=eN tab []
noncomputable def pV (v:Y6×Y6×Int):St:=⟨[sV 0 Z8 v.1,sV 1 Z8 v.2.1,sV 5 Z2 v.2.2],[],[],4096⟩
def NM (BM:Y6×Y6×Int->Option Bool) (v:Y6×Y6×Int):Option Bool:=
 bif decide (v.2.2 < (v.1.length:Int)) then (BX v.1 v.2.2).bind λx1=>((BX v.2.1 v.2.2).bind λx2=>bif !(R3 Z18 x1 x2) then some false else let x3:Int:=IntKind.i64.wrap (v.2.2+1);BM (v.1,v.2.1,x3)) else some true
def Dp (N:Nat) (BM:Y6×Y6×Int->Option Bool) (v:Y6×Y6×Int):Option Bool:=NM BM v
theorem QO5 (N:Nat) (s0) (v):(Bc QIh QKD 6 N f38 [.bool] [false] [] 0 BN) s0 (pV v)=Dp N (λv=>s0 (pV v)) v:=by kernel_rfl
def H6 (BZ:Y6×Y6×Int->Option Bool) (x:Y6×Y6):Option Bool:=
 bif (x.1.length:Int) != (x.2.length:Int) then some false else BZ (x.1,x.2,(0:Int))
def K5 (x:Y6×Y6):Option Bool:=H6 (BP (Dp big) big) x
def QJH:Cb:=⟨[Z8,Z8],[.bool],[false],λx=>K5 x⟩
theorem QQd:Bb prog 38 QJH:=DV QIh QKD (λN x=>H6 (BP (Dp N) N) x) (eO BS) func38 λN x=>Eq.trans (b:=H6 (λv=>Bd (Bc QIh QKD 6 N f38 [.bool] [false] [] 0 BN) N (pV v)) x) (by kernel_rfl) (by rw [funext (BR pV (QO5 N) N)] <;> rfl)
def QKE:LT:=lT [(4,[0,1,5])]
noncomputable def QIi:=eN tab []
noncomputable def pW (v:Y3×Y3×Int):St:=⟨[sV 0 LX v.1,sV 1 LX v.2.1,sV 5 Z2 v.2.2],[],[],4096⟩
def WK (BM:Y3×Y3×Int->Option Bool) (v:Y3×Y3×Int):Option Bool:=
 bif decide (v.2.2 < (v.1.length:Int)) then (BX v.1 v.2.2).bind λx1=>((BX v.2.1 v.2.2).bind λx2=>bif !(R3 Z3 x1 x2) then some false else let x3:Int:=IntKind.i64.wrap (v.2.2+1);BM (v.1,v.2.1,x3)) else some true
def IK (N:Nat) (BM:Y3×Y3×Int->Option Bool) (v:Y3×Y3×Int):Option Bool:=WK BM v
theorem QO6 (N:Nat) (s0) (v):(Bc QIi QKE 6 N f39 [.bool] [false] [] 0 BN) s0 (pW v)=IK N (λv=>s0 (pW v)) v:=by kernel_rfl
def SF (BZ:Y3×Y3×Int->Option Bool) (x:Y3×Y3):Option Bool:=
 bif (x.1.length:Int) != (x.2.length:Int) then some false else BZ (x.1,x.2,(0:Int))
def ZQ (x:Y3×Y3):Option Bool:=SF (BP (IK big) big) x
def QQ0:Cb:=⟨[LX,LX],[.bool],[false],λx=>ZQ x⟩
theorem QXF:Bb prog 39 QQ0:=DV QIi QKE (λN x=>SF (BP (IK N) N) x) (eO BS) func39 λN x=>Eq.trans (b:=SF (λv=>Bd (Bc QIi QKE 6 N f39 [.bool] [false] [] 0 BN) N (pW v)) x) (by kernel_rfl) (by rw [funext (BR pW (QO6 N) N)] <;> rfl)
def QKF:LT:=lT [(4,[0,1,5])]
noncomputable def QIj:=eN tab []
noncomputable def pX (v:Y9×Y9×Int):St:=⟨[sV 0 dA v.1,sV 1 dA v.2.1,sV 5 Z2 v.2.2],[],[],4096⟩
def WL (BM:Y9×Y9×Int->Option Bool) (v:Y9×Y9×Int):Option Bool:=
 bif decide (v.2.2 < (v.1.length:Int)) then (BX v.1 v.2.2).bind λx1=>((BX v.2.1 v.2.2).bind λx2=>bif !(R3 Z6 x1 x2) then some false else let x3:Int:=IntKind.i64.wrap (v.2.2+1);BM (v.1,v.2.1,x3)) else some true
def IL (N:Nat) (BM:Y9×Y9×Int->Option Bool) (v:Y9×Y9×Int):Option Bool:=WL BM v
theorem QO7 (N:Nat) (s0) (v):(Bc QIj QKF 6 N f40 [.bool] [false] [] 0 BN) s0 (pX v)=IL N (λv=>s0 (pX v)) v:=by kernel_rfl
def SK (BZ:Y9×Y9×Int->Option Bool) (x:Y9×Y9):Option Bool:=
 bif (x.1.length:Int) != (x.2.length:Int) then some false else BZ (x.1,x.2,(0:Int))
def Vi (x:Y9×Y9):Option Bool:=SK (BP (IL big) big) x
def QQ1:Cb:=⟨[dA,dA],[.bool],[false],λx=>Vi x⟩
theorem QXG:Bb prog 40 QQ1:=DV QIj QKF (λN x=>SK (BP (IL N) N) x) (eO BS) func40 λN x=>Eq.trans (b:=SK (λv=>Bd (Bc QIj QKF 6 N f40 [.bool] [false] [] 0 BN) N (pX v)) x) (by kernel_rfl) (by rw [funext (BR pX (QO7 N) N)] <;> rfl)
def QYM:LT:=lT []
noncomputable def QVc:=eN tab [(38,QJH),(39,QQ0),(40,QQ1)]
def TL (x:Y0×Y0):Option Bool:=
 bif R3 .str x.1.1 x.2.1 then bif x.1.2.1==x.2.2.1 then bif x.1.2.2.1==x.2.2.2.1 then (K5 (x.1.2.2.2.1,x.2.2.2.2.1)).bind λx1=>bif x1 then (ZQ (x.1.2.2.2.2.1,x.2.2.2.2.2.1)).bind λx2=>bif x2 then (Vi (x.1.2.2.2.2.2.1,x.2.2.2.2.2.2.1)).bind λx3=>bif x3 then (Vi (x.1.2.2.2.2.2.2.1,x.2.2.2.2.2.2.2.1)).bind λx4=>some x4 else some false else some false else some false else some false else some false else some false
def G5 (x:Y0×Y0):Option Bool:=TL x
def QEx:Cb:=⟨[Z0,Z0],[.bool],[false],λx=>G5 x⟩
theorem QJY:Bb prog 13 QEx:=DV QVc QYM (λ_=>G5) (eO (BO QQd (BO QXF (BO QXG BS)))) func13
def QYN:LT:=lT []
noncomputable def QVd:=eN tab [(13,QEx),(49,QJF),(50,QJG)]
def YO (x:Y1×Int):Option ZC:=
 (OI (x.1,x.2)).bind λx1=>bif x1.2==0 then (Ra (x.1,x.2)).bind λx2=>(BX x.1.2.2.1 x.2).bind λx3=>(G5 (x2,x3)).bind λx4=>bif !x4 then some ((-1:Int),(32:Int)) else some (x1.1,x1.2) else some (x1.1,x1.2)
def Ti (x:Y1×Int):Option ZC:=YO x
def QQ2:Cb:=⟨[Z1,Z2],[Z2,Z2],[false,false],λx=>Ti x⟩
theorem QXH:Bb prog 44 QQ2:=DV QVd QYN (λ_=>Ti) (eO (BO QJY (BO QQb (BO QQc BS)))) func44
def QKG:LT:=lT [(5,[1,6])]
noncomputable def QIk:=eN tab [(43,QEs),(44,QQ2)]
noncomputable def pY (v:aI):St:=⟨[(1,.loc 0 []),sV 6 Z2 v.1],[(0,.var Z1 (.val ⟨Z1,v.2⟩))],[],4096⟩
def Um (BM:aI->Option Y21) (v:aI):Option Y21:=
 bif decide (v.1 < (v.2.2.2.1.length:Int)) then (Ti (v.2,v.1)).bind λx2=>bif x2.2 != 0 then some (v.1,x2.1,x2.2) else let x3:Int:=IntKind.i64.wrap (v.1+1);BM (x3,v.2) else some ((0:Int),(0:Int),(0:Int))
def Gb (N:Nat) (BM:aI->Option Y21) (v:aI):Option Y21:=Um BM v
theorem QO8 (N:Nat) (s0) (v):(Bc QIk QKG 6 N f17 [Z2,Z2,Z2] [false,false,false] [] 0 BN) s0 (pY v)=Gb N (λv=>s0 (pY v)) v:=by kernel_rfl
def Qb (BZ:aI->Option Y21) (x:Y1):Option Y21:=
 (Mi x).bind λx1=>bif x1 != 0 then some ((0:Int),(0:Int),x1) else BZ ((0:Int),x)
def PN (x:Y1):Option Y21:=Qb (BP (Gb big) big) x
def QJI:Cb:=⟨[Z1],[Z2,Z2,Z2],[false,false,false],λx=>PN x⟩
theorem QQe:Bb prog 17 QJI:=DV QIk QKG (λN x=>Qb (BP (Gb N) N) x) (eO (BO QJT (BO QXH BS))) func17 λN x=>Eq.trans (b:=Qb (λv=>Bd (Bc QIk QKG 6 N f17 [Z2,Z2,Z2] [false,false,false] [] 0 BN) N (pY v)) x) (by kernel_rfl) (by rw [funext (BR pY (QO8 N) N)] <;> rfl)
def QB9:LT:=lT [(14,[1,3,11,12,13,14,15]),(18,[1,3,11,12,14,16])]
noncomputable def QAr:=eN tab [(43,QEs),(45,QJ9),(46,QJB),(47,QAx),(48,QEu)]
noncomputable def pz (v:Y50):St:=⟨[sV 1 Z2 v.1,(3,.loc 0 []),(11,.row 1),(12,.row 2),sV 14 Z5 v.2.1,sV 16 Z2 v.2.2.1],[(0,.var Z1 (.val ⟨Z1,v.2.2.2.1⟩)),(1,.row Z2 v.2.2.2.2.1),(2,.row Z2 v.2.2.2.2.2)],[],4096⟩
noncomputable def au (v:Y43):St:=⟨[sV 1 Z2 v.1,(3,.loc 0 []),(11,.row 1),(12,.row 2),(13,.row 3),sV 14 Z5 v.2.1,sV 15 Z2 v.2.2.1],[(0,.var Z1 (.val ⟨Z1,v.2.2.2.1⟩)),(1,.row Z2 v.2.2.2.2.1),(2,.row Z2 v.2.2.2.2.2.1),(3,.row Z2 v.2.2.2.2.2.2)],[],4096⟩
def Un (BM:Y43->Option nT) (BQ:Y50->Option nT) (v:Y50):Option nT:=
 bif decide (v.2.2.1 < (v.2.1.length:Int)) then (BX v.2.1 v.2.2.1).bind λKw=>((F9 (v.2.2.2.1,v.1,Kw)).bind λNC=>bif Nat.ble 1 1&&Nat.ble (List.length v.2.2.2.2.2+List.length ([NC]:Y2)) lim then let Ih:Y2:=List.append v.2.2.2.2.2 ([NC]:Y2);let H7:Int:=IntKind.i64.wrap (v.2.2.1+1);BQ (v.1,v.2.1,H7,v.2.2.2.1,v.2.2.2.2.1,Ih) else none) else some (v.2.2.2.2.1,v.2.2.2.2.2,(0:Int))
def JH (N:Nat) (BM:Y43->Option nT) (BQ:Y50->Option nT) (v:Y50):Option nT:=Un BM BQ v
theorem QOB (N:Nat) (s0:St->Option nT) (s1) (v):(Bc QAr QB9 6 N f18 [Z5,Z5,Z2] [true,false,false] [] 1 BN) s1 (pz v)=JH N (λv=>s0 (au v)) (λv=>s1 (pz v)) v:=by kernel_rfl
def P7 (Ca:Y50->Option nT) (BM:Y43->Option nT) (v:Y43):Option nT:=
 bif decide (v.2.2.1 < (v.2.2.2.2.2.2.length:Int)) then bif decide (0<=v.2.2.1)&&decide (v.2.2.1 < (v.2.2.2.2.2.2.length:Int)) then (nth v.2.2.2.2.2.2 (Int.toNat v.2.2.1)).bind λx8=>((F9 (v.2.2.2.1,v.1,x8)).bind λx9=>bif Nat.ble 1 1&&Nat.ble (List.length v.2.2.2.2.1+List.length ([x9]:Y2)) lim then let FJ:Y2:=List.append v.2.2.2.2.1 ([x9]:Y2);let FQ:Int:=IntKind.i64.wrap (v.2.2.1+1);BM (v.1,v.2.1,FQ,v.2.2.2.1,FJ,v.2.2.2.2.2.1,v.2.2.2.2.2.2) else none) else none else Ca (v.1,v.2.1,(0:Int),v.2.2.2.1,v.2.2.2.2.1,v.2.2.2.2.2.1)
def Gc (N:Nat) (BM:Y43->Option nT) (v:Y43):Option nT:=P7 (BP (JH N BM) N) BM v
theorem QOA (N:Nat) (s0) (v):(Bc QAr QB9 6 N f18 [Z5,Z5,Z2] [true,false,false] [] 0 BN) s0 (au v)=Gc N (λv=>s0 (au v)) v:=Eq.trans (b:=P7 (λv=>Bd (Bc QAr QB9 6 N f18 [Z5,Z5,Z2] [true,false,false] [] 1 BN) N (pz v)) (λv=>s0 (au v)) v) (by kernel_rfl) (by rw [funext (BR pz (QOB N s0) N)];rfl)
def Qd (BZ:Y43->Option nT) (x:Y92):Option nT:=
 (Mi x.1).bind λx1=>bif x1 != 0 then some (([]:List Int),([]:List Int),x1) else bif decide (x.2.1 < 0) then some (([]:List Int),([]:List Int),(2:Int)) else bif decide (x.2.1>=(x.1.2.2.1.length:Int)) then some (([]:List Int),([]:List Int),(2:Int)) else bif decide (x.2.2 < 0) then some (([]:List Int),([]:List Int),(2:Int)) else (BX x.1.2.2.1 x.2.1).bind λx2=>bif decide (x.2.2>=(x2.2.2.2.2.1.length:Int)) then some (([]:List Int),([]:List Int),(2:Int)) else (BX x.1.2.2.1 x.2.1).bind λx3=>(BX x3.2.2.2.2.1 x.2.2).bind λx4=>(Vk (x.1,x.2.1,x4)).bind λx5=>bif !x5 then some (([]:List Int),([]:List Int),(16:Int)) else (PU (x.1,x.2.1,x4)).bind λx6=>bif !x6 then some (([]:List Int),([]:List Int),(30:Int)) else (I4 x4).bind λx7=>BZ (x.2.1,x7.2,(0:Int),x.1,([]:List Int),([]:List Int),x7.1)
def X3 (x:Y92):Option nT:=Qd (BP (Gc big) big) x
def QQ5:Cb:=⟨[Z1,Z2,Z2],[Z5,Z5,Z2],[true,false,false],λx=>X3 x⟩
theorem QXK:Bb prog 18 QQ5:=DV QAr QB9 (λN x=>Qd (BP (Gc N) N) x) (eO (BO QJT (BO QQV (BO QQX (BO QF0 (BO QJV BS)))))) func18 λN x=>Eq.trans (b:=Qd (λv=>Bd (Bc QAr QB9 6 N f18 [Z5,Z5,Z2] [true,false,false] [] 0 BN) N (au v)) x) (by kernel_rfl) (by rw [funext (BR au (QOA N) N)] <;> rfl)
def QYT:LT:=lT []
noncomputable def QVj:=eN tab [(43,QEs),(49,QJF),(50,QJG)]
def Wm (x:Y1×Int):Option (Y0×Int):=
 (Mi x.1).bind λx1=>bif x1 != 0 then let x2:Y0:=(([]:List Int),((0:Int),((0:Int),(([]:Y6),(([]:Y3),(([]:Y9),(([]:Y9),())))))));some (x2,x1) else bif decide (x.2 < 0) then let x3:Y0:=(([]:List Int),((0:Int),((0:Int),(([]:Y6),(([]:Y3),(([]:Y9),(([]:Y9),())))))));some (x3,(2:Int)) else bif decide (x.2>=(x.1.2.2.1.length:Int)) then let x4:Y0:=(([]:List Int),((0:Int),((0:Int),(([]:Y6),(([]:Y3),(([]:Y9),(([]:Y9),())))))));some (x4,(2:Int)) else (OI (x.1,x.2)).bind λx5=>bif x5.2 != 0 then let x6:Y0:=(([]:List Int),((0:Int),((0:Int),(([]:Y6),(([]:Y3),(([]:Y9),(([]:Y9),())))))));some (x6,x5.2) else (Ra (x.1,x.2)).bind λx7=>some (x7,(0:Int))
def Rb (x:Y1×Int):Option (Y0×Int):=Wm x
def QQ9:Cb:=⟨[Z1,Z2],[Z0,Z2],[false,false],λx=>Rb x⟩
theorem QXO:Bb prog 19 QQ9:=DV QVj QYT (λ_=>Rb) (eO (BO QJT (BO QQb (BO QQc BS)))) func19
def QYV:LT:=lT []
noncomputable def QVl:=eN tab [(17,QJI)]
def QAF (x:Y1):Option Int:=
 (PN x).bind λx1=>some x1.2.2
def Tf (x:Y1):Option Int:=QAF x
def QQB:Cb:=⟨[Z1],[Z2],[false],λx=>Tf x⟩
theorem QXQ:Bb prog 21 QQB:=DV QVl QYV (λ_=>Tf) (eO (BO QQe BS)) func21
def QKI:LT:=lT [(4,[0,1,5])]
noncomputable def QIm:=eN tab [(38,QJH)]
noncomputable def p8 (v:Y4×Y4×Int):St:=⟨[sV 0 VN v.1,sV 1 VN v.2.1,sV 5 Z2 v.2.2],[],[],4096⟩
def OV (BM:Y4×Y4×Int->Option Bool) (v:Y4×Y4×Int):Option Bool:=
 bif decide (v.2.2 < (v.1.length:Int)) then (BX v.1 v.2.2).bind λx1=>(BX v.2.1 v.2.2).bind λx2=>bif x1.1 != x2.1 then some false else (BX v.1 v.2.2).bind λx3=>(BX v.2.1 v.2.2).bind λx4=>bif x3.2.1 != x4.2.1 then some false else (BX v.1 v.2.2).bind λx5=>(BX v.2.1 v.2.2).bind λx6=>bif x5.2.2.1 != x6.2.2.1 then some false else (BX v.1 v.2.2).bind λx7=>(BX v.2.1 v.2.2).bind λx8=>((K5 (x7.2.2.2.1,x8.2.2.2.1)).bind λx9=>bif !x9 then some false else let FJ:Int:=IntKind.i64.wrap (v.2.2+1);BM (v.1,v.2.1,FJ)) else some true
def ED (N:Nat) (BM:Y4×Y4×Int->Option Bool) (v:Y4×Y4×Int):Option Bool:=OV BM v
theorem QOC (N:Nat) (s0) (v):(Bc QIm QKI 6 N f51 [.bool] [false] [] 0 BN) s0 (p8 v)=ED N (λv=>s0 (p8 v)) v:=by kernel_rfl
def Ja (BZ:Y4×Y4×Int->Option Bool) (x:Y4×Y4):Option Bool:=
 bif (x.1.length:Int) != (x.2.length:Int) then some false else BZ (x.1,x.2,(0:Int))
def Qy (x:Y4×Y4):Option Bool:=Ja (BP (ED big) big) x
def QQC:Cb:=⟨[VN,VN],[.bool],[false],λx=>Qy x⟩
theorem QXR:Bb prog 51 QQC:=DV QIm QKI (λN x=>Ja (BP (ED N) N) x) (eO (BO QQd BS)) func51 λN x=>Eq.trans (b:=Ja (λv=>Bd (Bc QIm QKI 6 N f51 [.bool] [false] [] 0 BN) N (p8 v)) x) (by kernel_rfl) (by rw [funext (BR p8 (QOC N) N)] <;> rfl)
def QBA:LT:=lT [(4,[2,3,5]),(9,[2,3,6])]
noncomputable def QAs:=eN tab [(13,QEx),(51,QQC)]
noncomputable def p9 (v:Y96):St:=⟨[(2,.loc 0 []),(3,.loc 1 []),sV 6 Z2 v.1],[(0,.var Z1 (.val ⟨Z1,v.2.1⟩)),(1,.var Z1 (.val ⟨Z1,v.2.2⟩))],[],4096⟩
noncomputable def ay (v:Y96):St:=⟨[(2,.loc 0 []),(3,.loc 1 []),sV 5 Z2 v.1],[(0,.var Z1 (.val ⟨Z1,v.2.1⟩)),(1,.var Z1 (.val ⟨Z1,v.2.2⟩))],[],4096⟩
def WO (BM:Y96->Option Bool) (BQ:Y96->Option Bool) (v:Y96):Option Bool:=
 bif decide (v.1 < (v.2.1.2.2.1.length:Int)) then (BX v.2.1.2.2.1 v.1).bind λx5=>(BX v.2.2.2.2.1 v.1).bind λx6=>((G5 (x5,x6)).bind λx7=>bif !x7 then some false else let x8:Int:=IntKind.i64.wrap (v.1+1);BQ (x8,v.2.1,v.2.2)) else some true
def Ki (N:Nat) (BM:Y96->Option Bool) (BQ:Y96->Option Bool) (v:Y96):Option Bool:=WO BM BQ v
theorem QOE (N:Nat) (s0:St->Option Bool) (s1) (v):(Bc QAs QBA 6 N f23 [.bool] [false] [] 1 BN) s1 (p9 v)=Ki N (λv=>s0 (ay v)) (λv=>s1 (p9 v)) v:=by kernel_rfl
def Ru (Ca:Y96->Option Bool) (BM:Y96->Option Bool) (v:Y96):Option Bool:=
 bif decide (v.1 < (v.2.1.2.1.length:Int)) then (BX v.2.1.2.1 v.1).bind λx2=>((BX v.2.2.2.1 v.1).bind λx3=>bif !(R3 .str x2 x3) then some false else let x4:Int:=IntKind.i64.wrap (v.1+1);BM (x4,v.2.1,v.2.2)) else Ca ((0:Int),v.2.1,v.2.2)
def IU (N:Nat) (BM:Y96->Option Bool) (v:Y96):Option Bool:=Ru (BP (Ki N BM) N) BM v
theorem QOD (N:Nat) (s0) (v):(Bc QAs QBA 6 N f23 [.bool] [false] [] 0 BN) s0 (ay v)=IU N (λv=>s0 (ay v)) v:=Eq.trans (b:=Ru (λv=>Bd (Bc QAs QBA 6 N f23 [.bool] [false] [] 1 BN) N (p9 v)) (λv=>s0 (ay v)) v) (by kernel_rfl) (by rw [funext (BR p9 (QOE N s0) N)];rfl)
def SN (BZ:Y96->Option Bool) (x:Y1×Y1):Option Bool:=
 (Qy (x.1.1,x.2.1)).bind λx1=>bif !x1 then some false else bif (x.1.2.1.length:Int) != (x.2.2.1.length:Int) then some false else bif (x.1.2.2.1.length:Int) != (x.2.2.2.1.length:Int) then some false else BZ ((0:Int),x.1,x.2)
def Vj (x:Y1×Y1):Option Bool:=SN (BP (IU big) big) x
def QQD:Cb:=⟨[Z1,Z1],[.bool],[false],λx=>Vj x⟩
theorem QXS:Bb prog 23 QQD:=DV QAs QBA (λN x=>SN (BP (IU N) N) x) (eO (BO QJY (BO QXR BS))) func23 λN x=>Eq.trans (b:=SN (λv=>Bd (Bc QAs QBA 6 N f23 [.bool] [false] [] 0 BN) N (ay v)) x) (by kernel_rfl) (by rw [funext (BR ay (QOD N) N)] <;> rfl)
def Ov:LT:=lK [] [(27,[1,2,3])]
noncomputable def Ot:CO:={ tab:=tab,fs:=[(11,QQ8),(12,QQ4),(13,QEx),(15,Gz1),(16,QIy),(17,QJI),(18,QQ5),(19,QQ9),(20,QQA),(21,QQB),(22,QEw),(23,QQD),(27,Gz2)],inl:=[(10,f10,Tz3)] }
noncomputable def Il (v:Y27):St:=⟨[(1,.loc 0 []),(2,.loc 1 []),(3,.loc 5 []),sV 4 Z2 v.1],[(0,.var Z1 (.val ⟨Z1,v.2.1⟩)),(1,.var Z1 (.pair (.row 2) (.pair (.row 3) (.pair (.row 4) (.val ⟨.unit,v.2.2.1⟩))))),(2,.row Z4 v.2.2.2.1),(3,.row .str v.2.2.2.2.1),(4,.row Z0 v.2.2.2.2.2.1),(5,.var Z1 (.pair (.row 6) (.pair (.row 7) (.pair (.row 8) .unit)))),(6,.row Z4 v.2.2.2.2.2.2.1),(7,.row .str v.2.2.2.2.2.2.2.1),(8,.row Z0 v.2.2.2.2.2.2.2.2.1),(9,.var Z1 (.val ⟨Z1,v.2.2.2.2.2.2.2.2.2.1⟩))],[(4096,[sV 1 Z2 v.2.2.2.2.2.2.2.2.2.2.1,sV 2 Z2 v.2.2.2.2.2.2.2.2.2.2.2,(3,.loc 9 [])])],16891904⟩
def NK (BM:Y27->Option Bool) (v:Y27):Option Bool:=
 bif decide (v.1 < (v.2.1.2.2.1.length:Int)) then (BX v.2.1.2.2.1 v.1).bind λx4=>let x5:Y6:=([]:Y6);bif Nat.ble 1 2&&Nat.ble (List.length x5+x4.2.2.2.1.length) lim then let x6:Y6:=List.append x5 x4.2.2.2.1;let x7:Y3:=([]:Y3);bif Nat.ble 1 4&&Nat.ble (List.length x7+x4.2.2.2.2.1.length) lim then let x8:Y3:=List.append x7 x4.2.2.2.2.1;let x9:Y9:=([]:Y9);bif Nat.ble 1 2&&Nat.ble (List.length x9+x4.2.2.2.2.2.1.length) lim then let FJ:Y9:=List.append x9 x4.2.2.2.2.2.1;let FQ:Y9:=([]:Y9);bif Nat.ble 1 2&&Nat.ble (List.length FQ+x4.2.2.2.2.2.2.1.length) lim then let Kw:Y9:=List.append FQ x4.2.2.2.2.2.2.1;let NC:jc:=([(x4.1,(x4.2.1,(x4.2.2.1,(x6,(x8,(FJ,(Kw,x4.2.2.2.2.2.2.2)))))))]:jc);bif Nat.ble 1 7&&Nat.ble (List.length v.2.2.2.2.2.2.2.2.1+NC.length) lim then let Ih:jc:=List.append v.2.2.2.2.2.2.2.2.1 NC;let H7:Int:=IntKind.i64.wrap (v.1+1);BM (H7,v.2.1,v.2.2.1,v.2.2.2.1,v.2.2.2.2.1,v.2.2.2.2.2.1,v.2.2.2.2.2.2.1,v.2.2.2.2.2.2.2.1,Ih,v.2.2.2.2.2.2.2.2.2.1,v.2.2.2.2.2.2.2.2.2.2.1,v.2.2.2.2.2.2.2.2.2.2.2) else none else none else none else none else none else (Ma (v.2.2.2.2.2.2.1,(v.2.2.2.2.2.2.2.1,(v.2.2.2.2.2.2.2.2.1,())))).bind λQn=>(PN v.2.2.2.2.2.2.2.2.2.1).bind λSg=>(Mc ((v.2.2.2.2.2.2.1,(v.2.2.2.2.2.2.2.1,(v.2.2.2.2.2.2.2.2.1,()))),v.2.2.2.2.2.2.2.2.2.2.1,v.2.2.2.2.2.2.2.2.2.2.2)).bind λVR=>(X3 (v.2.2.2.2.2.2.2.2.2.1,v.2.2.2.2.2.2.2.2.2.2.1,v.2.2.2.2.2.2.2.2.2.2.2)).bind λVL=>(H9 ((v.2.2.2.2.2.2.1,(v.2.2.2.2.2.2.2.1,(v.2.2.2.2.2.2.2.2.1,()))),v.2.2.2.2.2.2.2.2.2.2.1)).bind λVT=>(Rb (v.2.2.2.2.2.2.2.2.2.1,v.2.2.2.2.2.2.2.2.2.2.1)).bind λx21=>(Oy (v.2.2.2.2.2.2.1,(v.2.2.2.2.2.2.2.1,(v.2.2.2.2.2.2.2.2.1,())))).bind λXd=>(Tf v.2.2.2.2.2.2.2.2.2.1).bind λx23=>bif Xd==x23 then bif Qn.1==Sg.1 then bif Qn.2.1==Sg.2.1 then bif Qn.2.2==Sg.2.2 then (Gz (VR.1,VL.1)).bind λx24=>bif x24 then (Gz (VR.2.1,VL.2.1)).bind λx25=>bif x25 then bif VR.2.2==VL.2.2 then (G5 (VT.1,x21.1)).bind λjT=>bif jT then bif VT.2==x21.2 then (Vj ((v.2.2.2.2.2.2.1,(v.2.2.2.2.2.2.2.1,(v.2.2.2.2.2.2.2.2.1,()))),v.2.2.2.2.2.2.2.2.2.1)).bind λx27=>some x27 else some false else some false else some false else some false else some false else some false else some false else some false else some false
def Dn (N:Nat) (BM:Y27->Option Bool) (v:Y27):Option Bool:=NK BM v
theorem bg (N:Nat) (s0) (v):(Bc Ot Ov 6 N f4 [.bool] [false] [.call 3 1 10] 0 BN) s0 (Il v)=Dn N (λv=>s0 (Il v)) v:=by kernel_rfl
def Hz (BZ:Y27->Option Bool) (x:Y92):Option Bool:=
 (X0 x.1).bind λx1=>bif x1 then some true else (Vd x.1.1).bind λx2=>bif Nat.ble 1 1&&Nat.ble (List.length ([]:Si)+x.1.2.1.length) lim then let x3:Si:=List.append ([]:Si) x.1.2.1;BZ ((0:Int),x.1,(),([]:List jZ),([]:List Y2),([]:List Y0),x2,x3,([]:List Y0),x.1,x.2.1,x.2.2) else none
def Va (x:Y92):Option Bool:=Hz (BP (Dn big) big) x
def Ky:Cb:=⟨[Z1,Z2,Z2],[.bool],[false],λx=>Va x⟩
theorem gD:Bb prog 4 Ky:=DV Ot Ov (λN x=>Hz (BP (Dn N) N) x) ⟨OD,(BO QXN (BO QXJ (BO QJY (BO Lz1 (BO QQJ (BO QQe (BO QXK (BO QXO (BO QXP (BO QXQ (BO QJX (BO QXS (BO Lz2 BS))))))))))))),λ_ _ _=>rfl,mixed,(Cm (Cj func10 rfl rfl (by kernel_rfl)) Gv),Gy,Gx⟩ func4 λN x=>Eq.trans (b:=Hz (λv=>Bd (Bc Ot Ov 6 N f4 [.bool] [false] [.call 3 1 10] 0 BN) N (Il v)) x) (by kernel_rfl) (by rw [funext (BR Il (bg N) N)] <;> rfl)
end Go.Proofs.YtjcnhegjiffgpaaGreatDoor
